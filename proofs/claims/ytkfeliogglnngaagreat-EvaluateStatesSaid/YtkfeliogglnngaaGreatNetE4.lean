/- The walk of EvaluateStates. No conditions. Made by gnE4.py. -/
import Derived.Test.YtkfeliogglnngaaGreatNetPt
import Derived.Test.YtkfeliogglnngaaGreatNetA3
import Derived.Test.YtkfeliogglnngaaGreatNetR3
import Derived.Test.YtkfeliogglnngaaGreatNetNx
import Derived.Test.YtkfeliogglnngaaGreatNetTe
import Derived.Test.YtkfeliogglnngaaGreatNetSz
namespace Go.Proofs.YtkfeliogglnngaaGreat
open Go Go.RowKit
namespace NetE4
open Kit LexM TermM TermI TermH NetM NetN NetK NetA NetC NetI NetMk NetNu NetOk NetEv NetBo NetMb NetS NetVa NetVv NetTr NetSa NetA3 NetPt NetSl NetSz NetGo NetOu NetGl NetTe
set_option maxRecDepth 100000 in
set_option maxHeartbeats 6400000 in
theorem law (n : Nt) (h : Nh) (st ip : List Int) (r : Int) (w : World) (vs vi : Value) (k : NetIn (· < w.heap.size) w n h) (hs : RowE KN (· < w.heap.size) w st vs) (hi : RowE KN (· < w.heap.size) w ip vi) :
    Calls Tryz.prog 3 #[.agg #[.slice h.gp n.gates.length h.gc, .slice h.rp n.roles.length h.rc, .slice h.bp n.bases.length h.bc, .slice h.ip n.inputs.length h.ic, .slice h.ap n.initial.length h.ac, .slice h.np n.next.length h.nc, .slice h.lp n.legal.length h.lc, .slice h.op n.goals.length h.oc, .slice h.sp n.sees.length h.sc, .int .i64 n.last, .bool n.hid], .agg #[vs, vi, .int .i64 r]] w fun e w' => e = .returned (.bool true) ∧ Below w.heap.size w w' := by
  obtain ⟨W1, hW1⟩ : ∃ z, z = w.alloc (.cells #[.slice h.gp n.gates.length h.gc, .slice h.rp n.roles.length h.rc, .slice h.bp n.bases.length h.bc, .slice h.ip n.inputs.length h.ic, .slice h.ap n.initial.length h.ac, .slice h.np n.next.length h.nc, .slice h.lp n.legal.length h.lc, .slice h.op n.goals.length h.oc, .slice h.sp n.sees.length h.sc, .int .i64 n.last, .bool n.hid] 28) := ⟨_, rfl⟩
  obtain ⟨Wb, hWb⟩ : ∃ z, z = W1.alloc (.cells #[vs, vi, .int .i64 r] 30) := ⟨_, rfl⟩
  have K1 : Hid (Below w.heap.size w W1) := Lib.hid (by rw [hW1]; exact below_alloc _ _)
  have K2 : Hid (Below W1.heap.size W1 Wb) := Lib.hid (by rw [hWb]; exact below_alloc _ _)
  have hz1 : W1.heap.size = w.heap.size + 1 := by rw [hW1]; simp
  have BB : Hid (Below w.heap.size w Wb) := Lib.hid (next0 K1.out K2.out)
  have H1 : Hid (Has Wb w.heap.size (netC n h)) := Lib.hid (by rw [hWb, hW1]; exact (Has.new _ _ _).alloc _)
  have H2 : Hid (Has Wb (w.heap.size + 1) #[vs, vi, .int .i64 r]) := Lib.hid (by rw [hWb, ← hz1]; exact Has.new _ _ _)
  have hzB := BB.out.size
  have KW := Lib.hid (fun w' (q : Below Wb.heap.size Wb w') => show Below w.heap.size w w' from BB.out.trans (q.mono hzB))
  have NK := Lib.hid (fun w' (q : Below Wb.heap.size Wb w') => k.deep (KW.out w' q) (Nat.le_refl _))
  have RS := Lib.hid (fun w' (q : Below Wb.heap.size Wb w') => hs.keep (w' := w') fun b o (hb : b < w.heap.size) => (KW.out w' q).cell (p := ⟨b, o, none⟩) hb)
  have RI := Lib.hid (fun w' (q : Below Wb.heap.size Wb w') => hi.keep (w' := w') fun b o (hb : b < w.heap.size) => (KW.out w' q).cell (p := ⟨b, o, none⟩) hb)
  have HQ := Lib.hid (fun w' (q : Below Wb.heap.size Wb w') => And.intro (hasN (H1.out.step0 q)) (And.intro ((H2.out.step0 q).cell 0) (And.intro ((H2.out.step0 q).cell 1) ((H2.out.step0 q).cell 2))))
  have SM := Lib.hid (fun w' (q : Below Wb.heap.size Wb w') => NetSl.law_small n h w.heap.size w' (KW.out w' q).size (NK.out w' q))
  have CA1 := Lib.hid (fun (hz : SzN n) w' (q : Below Wb.heap.size Wb w') => NetNx.legal_any n h st w.heap.size w' vs (KW.out w' q).size (NK.out w' q) hz (RS.out w' q))
  have CA2 := Lib.hid (fun (hz : SzN n) w' (q : Below Wb.heap.size Wb w') => NetR3.r23legal_any n h st w.heap.size w' vs (KW.out w' q).size (NK.out w' q) hz (RS.out w' q))
  have CA3 := Lib.hid (fun (hz : SzN n) w' (q : Below Wb.heap.size Wb w') => NetTe.terminal_any n h st w.heap.size w' vs (KW.out w' q).size (NK.out w' q) hz (RS.out w' q))
  have CA4 := Lib.hid (fun (hz : SzN n) w' (q : Below Wb.heap.size Wb w') => NetR3.r23terminal_any n h st w.heap.size w' vs (KW.out w' q).size (NK.out w' q) hz (RS.out w' q))
  have CA5 := Lib.hid (fun (hz : SzN n) w' (q : Below Wb.heap.size Wb w') => goals_any n h st r w.heap.size w' vs (KW.out w' q).size (NK.out w' q) hz (RS.out w' q))
  have CA6 := Lib.hid (fun (hz : SzN n) w' (q : Below Wb.heap.size Wb w') => NetR3.r23goals_any n h st r w.heap.size w' vs (KW.out w' q).size (NK.out w' q) hz (RS.out w' q))
  obtain ⟨psl, csl, rfl⟩ := hs.form
  obtain ⟨pil, cil, rfl⟩ := hi.form
  have FW := Lib.hid (fun w' => few_any psl pil st.length csl ip.length cil r w')
  have D0 : Hid (Below Wb.heap.size Wb Wb) := Lib.hid (Below.refl _ _)
  clear k hs hi RS RI NK K1 K2
  have HZ1 := Lib.hid hz1
  clear hz1
  generalize evE groundB st [] n = er at *
  generalize ouE groundB st [] n r = eo at *
  generalize posE groundB st [] n n.legal = P at *
  generalize golE groundB st n r = PG at *
  generalize endE groundB st n = T at *
  go_enter Tryz.func3, Tryz.ntmps3
  go_upto_region 1 with fail
  have e0 := HZ1.out
  rw [← hW1, ← hWb]
  clear hWb hW1 e0
  have C1 := Lib.hid (SM.out Wb D0.out)
  obtain ⟨⟨q1, q2, q3, q4, q5, q6, q7, q8, q9, q10, q11⟩, z1, z2, z3⟩ := HQ.out Wb D0.out
  go_wp2_with fail
  refine C1.out.mono ?_
  rintro e w1 ⟨b1, rfl, s1, g1⟩
  have J1 : Hid (Below Wb.heap.size Wb w1) := Lib.hid g1
  have D1 : Hid (Below Wb.heap.size Wb w1) := Lib.hid (next0 D0.out g1)
  have S1 := Lib.hid s1
  clear s1
  clear g1 C1 q1 q2 q3 q4 q5 q6 q7 q8 q9 q10 q11 z1 z2 z3
  cases b1
  · have C2 := Lib.hid (alive_any w1)
    go_wp2_with fail
    refine C2.out.mono ?_
    rintro e w2 ⟨rfl, g2⟩
    have J2 : Hid (Below w1.heap.size w1 w2) := Lib.hid g2
    have D2 : Hid (Below Wb.heap.size Wb w2) := Lib.hid (next0 D1.out g2)
    clear g2 C2
    have DF := Lib.hid (KW.out _ D2.out)
    go_wp2_with fail
    go_ret
    exact ⟨rfl, DF.out⟩
  have ZN := Lib.hid (sz_of (S1.out rfl))
  clear S1
  have C2 := Lib.hid (FW.out w1)
  obtain ⟨⟨q1, q2, q3, q4, q5, q6, q7, q8, q9, q10, q11⟩, z1, z2, z3⟩ := HQ.out w1 D1.out
  go_wp2_with fail
  refine C2.out.mono ?_
  rintro e w2 ⟨b2, rfl, g2⟩
  have J2 : Hid (Below w1.heap.size w1 w2) := Lib.hid g2
  have D2 : Hid (Below Wb.heap.size Wb w2) := Lib.hid (next0 D1.out g2)
  clear g2 C2 q1 q2 q3 q4 q5 q6 q7 q8 q9 q10 q11 z1 z2 z3
  cases b2
  · have C3 := Lib.hid (alive_any w2)
    go_wp2_with fail
    refine C3.out.mono ?_
    rintro e w3 ⟨rfl, g3⟩
    have J3 : Hid (Below w2.heap.size w2 w3) := Lib.hid g3
    have D3 : Hid (Below Wb.heap.size Wb w3) := Lib.hid (next0 D2.out g3)
    clear g3 C3
    have DF := Lib.hid (KW.out _ D3.out)
    go_wp2_with fail
    go_ret
    exact ⟨rfl, DF.out⟩
  have C3 := Lib.hid (CA1.out ZN.out w2 D2.out)
  obtain ⟨⟨q1, q2, q3, q4, q5, q6, q7, q8, q9, q10, q11⟩, z1, z2, z3⟩ := HQ.out w2 D2.out
  go_wp2_with fail
  refine C3.out.mono ?_
  rintro e w3 ⟨v3, rfl, hv3, g3⟩
  have J3 : Hid (Below w2.heap.size w2 w3) := Lib.hid g3
  have D3 : Hid (Below Wb.heap.size Wb w3) := Lib.hid (next0 D2.out g3)
  have G3 := Lib.hid hv3
  obtain ⟨p3, c3, rfl⟩ := hv3.form
  clear hv3
  clear g3 C3 q1 q2 q3 q4 q5 q6 q7 q8 q9 q10 q11 z1 z2 z3
  have C4 := Lib.hid (CA2.out ZN.out w3 D3.out)
  obtain ⟨⟨q1, q2, q3, q4, q5, q6, q7, q8, q9, q10, q11⟩, z1, z2, z3⟩ := HQ.out w3 D3.out
  go_wp2_with fail
  refine C4.out.mono ?_
  rintro e w4 ⟨v4, rfl, hv4, g4⟩
  have J4 : Hid (Below w3.heap.size w3 w4) := Lib.hid g4
  have D4 : Hid (Below Wb.heap.size Wb w4) := Lib.hid (next0 D3.out g4)
  have G4 := Lib.hid hv4
  obtain ⟨p4, c4, rfl⟩ := hv4.form
  clear hv4
  clear g4 C4 q1 q2 q3 q4 q5 q6 q7 q8 q9 q10 q11 z1 z2 z3
  have C5 := Lib.hid (CA3.out ZN.out w4 D4.out)
  obtain ⟨⟨q1, q2, q3, q4, q5, q6, q7, q8, q9, q10, q11⟩, z1, z2, z3⟩ := HQ.out w4 D4.out
  go_wp2_with fail
  refine C5.out.mono ?_
  rintro e w5 ⟨rfl, g5⟩
  have J5 : Hid (Below w4.heap.size w4 w5) := Lib.hid g5
  have D5 : Hid (Below Wb.heap.size Wb w5) := Lib.hid (next0 D4.out g5)
  clear g5 C5 q1 q2 q3 q4 q5 q6 q7 q8 q9 q10 q11 z1 z2 z3
  have C6 := Lib.hid (CA4.out ZN.out w5 D5.out)
  obtain ⟨⟨q1, q2, q3, q4, q5, q6, q7, q8, q9, q10, q11⟩, z1, z2, z3⟩ := HQ.out w5 D5.out
  go_wp2_with fail
  refine C6.out.mono ?_
  rintro e w6 ⟨rfl, g6⟩
  have J6 : Hid (Below w5.heap.size w5 w6) := Lib.hid g6
  have D6 : Hid (Below Wb.heap.size Wb w6) := Lib.hid (next0 D5.out g6)
  clear g6 C6 q1 q2 q3 q4 q5 q6 q7 q8 q9 q10 q11 z1 z2 z3
  have C7 := Lib.hid (CA5.out ZN.out w6 D6.out)
  obtain ⟨⟨q1, q2, q3, q4, q5, q6, q7, q8, q9, q10, q11⟩, z1, z2, z3⟩ := HQ.out w6 D6.out
  go_wp2_with fail
  refine C7.out.mono ?_
  rintro e w7 ⟨v7, rfl, hv7, g7⟩
  have J7 : Hid (Below w6.heap.size w6 w7) := Lib.hid g7
  have D7 : Hid (Below Wb.heap.size Wb w7) := Lib.hid (next0 D6.out g7)
  have G7 := Lib.hid hv7
  obtain ⟨p7, c7, rfl⟩ := hv7.form
  clear hv7
  clear g7 C7 q1 q2 q3 q4 q5 q6 q7 q8 q9 q10 q11 z1 z2 z3
  have C8 := Lib.hid (CA6.out ZN.out w7 D7.out)
  obtain ⟨⟨q1, q2, q3, q4, q5, q6, q7, q8, q9, q10, q11⟩, z1, z2, z3⟩ := HQ.out w7 D7.out
  go_wp2_with fail
  refine C8.out.mono ?_
  rintro e w8 ⟨v8, rfl, hv8, g8⟩
  have J8 : Hid (Below w7.heap.size w7 w8) := Lib.hid g8
  have D8 : Hid (Below Wb.heap.size Wb w8) := Lib.hid (next0 D7.out g8)
  have G8 := Lib.hid hv8
  obtain ⟨p8, c8, rfl⟩ := hv8.form
  clear hv8
  clear g8 C8 q1 q2 q3 q4 q5 q6 q7 q8 q9 q10 q11 z1 z2 z3
  have C9 := Lib.hid (alive_any w8)
  go_wp2_with fail
  refine C9.out.mono ?_
  rintro e w9 ⟨rfl, g9⟩
  have J9 : Hid (Below w8.heap.size w8 w9) := Lib.hid g9
  have D9 : Hid (Below Wb.heap.size Wb w9) := Lib.hid (next0 D8.out g9)
  clear g9 C9
  have C10 := Lib.hid (ints_eq P w9 _ _ (row_on G3.out (next0 (next0 (next0 (next0 (next0 J4.out J5.out) J6.out) J7.out) J8.out) J9.out)) (row_on G4.out (next0 (next0 (next0 (next0 J5.out J6.out) J7.out) J8.out) J9.out)))
  go_wp2_with fail
  refine C10.out.mono ?_
  rintro e w10 ⟨rfl, g10⟩
  have J10 : Hid (Below w9.heap.size w9 w10) := Lib.hid g10
  have D10 : Hid (Below Wb.heap.size Wb w10) := Lib.hid (next0 D9.out g10)
  clear g10 C10
  have C11 := Lib.hid (ints_eq PG w10 _ _ (row_on G7.out (next0 (next0 J8.out J9.out) J10.out)) (row_on G8.out (next0 J9.out J10.out)))
  go_wp2_with fail
  refine C11.out.mono ?_
  rintro e w11 ⟨rfl, g11⟩
  have J11 : Hid (Below w10.heap.size w10 w11) := Lib.hid g11
  have D11 : Hid (Below Wb.heap.size Wb w11) := Lib.hid (next0 D10.out g11)
  clear g11 C11
  have DF := Lib.hid (KW.out _ D11.out)
  go_wp2_with fail
  go_ret
  exact ⟨rfl, DF.out⟩
end NetE4
end Go.Proofs.YtkfeliogglnngaaGreat
