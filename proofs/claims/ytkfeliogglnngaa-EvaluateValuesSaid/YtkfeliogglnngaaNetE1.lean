/- The walk of EvaluateValues. No conditions. Made by gnE1.py. -/
import Derived.Test.YtkfeliogglnngaaNetPt
import Derived.Test.YtkfeliogglnngaaNetA3
import Derived.Test.YtkfeliogglnngaaNetRw
import Derived.Test.YtkfeliogglnngaaNetSz
namespace Go.Proofs.Ytkfeliogglnngaa
open Go Go.RowKit
namespace NetE1
open Kit LexM TermM TermI TermH NetM NetN NetK NetA NetC NetI NetMk NetNu NetOk NetEv NetBo NetMb NetS NetVa NetVv NetTr NetSa NetA3 NetPt NetSl NetSz
set_option maxRecDepth 100000 in
set_option maxHeartbeats 6400000 in
theorem law (n : Nt) (h : Nh) (st ip : List Int) (r : Int) (w : World) (vs vi : Value) (k : NetIn (· < w.heap.size) w n h) (hs : RowE KN (· < w.heap.size) w st vs) (hi : RowE KN (· < w.heap.size) w ip vi) :
    Calls Try.prog 3 #[.agg #[.slice h.gp n.gates.length h.gc, .slice h.rp n.roles.length h.rc, .slice h.bp n.bases.length h.bc, .slice h.ip n.inputs.length h.ic, .slice h.ap n.initial.length h.ac, .slice h.np n.next.length h.nc, .slice h.lp n.legal.length h.lc, .slice h.op n.goals.length h.oc, .slice h.sp n.sees.length h.sc, .int .i64 n.last, .bool n.hid], .agg #[vs, vi, .int .i64 r]] w fun e w' => e = .returned (.bool true) ∧ Below w.heap.size w w' := by
  obtain ⟨W1, hW1⟩ : ∃ z, z = w.alloc (.cells #[.slice h.gp n.gates.length h.gc, .slice h.rp n.roles.length h.rc, .slice h.bp n.bases.length h.bc, .slice h.ip n.inputs.length h.ic, .slice h.ap n.initial.length h.ac, .slice h.np n.next.length h.nc, .slice h.lp n.legal.length h.lc, .slice h.op n.goals.length h.oc, .slice h.sp n.sees.length h.sc, .int .i64 n.last, .bool n.hid] 28) := ⟨_, rfl⟩
  obtain ⟨Wb, hWb⟩ : ∃ z, z = W1.alloc (.cells #[vs, vi, .int .i64 r] 30) := ⟨_, rfl⟩
  have K1 : Hid (Below w.heap.size w W1) := Lib.hid (by rw [hW1]; exact below_alloc _ _)
  have K2 : Hid (Below W1.heap.size W1 Wb) := Lib.hid (by rw [hWb]; exact below_alloc _ _)
  have hz1 : W1.heap.size = w.heap.size + 1 := by rw [hW1]; simp
  have BB : Hid (Below w.heap.size w Wb) := Lib.hid (next0 K1.out K2.out)
  have H1 : Hid (Has Wb w.heap.size (netC n h)) := Lib.hid (by rw [hWb, hW1]; exact (Has.new _ _ _).alloc _)
  have H2 : Hid (Has Wb (w.heap.size + 1) #[vs, vi, .int .i64 r]) := Lib.hid (by rw [hWb, ← hz1]; exact Has.new _ _ _)
  have hzB := BB.out.size
  have KW := Lib.hid (fun w' (q : Below Wb.heap.size Wb w') => show Below w.heap.size w w' from BB.out.trans (q.mono hzB))
  have NK := Lib.hid (fun w' (q : Below Wb.heap.size Wb w') => k.deep (KW.out w' q) (Nat.le_refl _))
  have RS := Lib.hid (fun w' (q : Below Wb.heap.size Wb w') => hs.keep (w' := w') fun b o (hb : b < w.heap.size) => (KW.out w' q).cell (p := ⟨b, o, none⟩) hb)
  have RI := Lib.hid (fun w' (q : Below Wb.heap.size Wb w') => hi.keep (w' := w') fun b o (hb : b < w.heap.size) => (KW.out w' q).cell (p := ⟨b, o, none⟩) hb)
  have HQ := Lib.hid (fun w' (q : Below Wb.heap.size Wb w') => And.intro (hasN (H1.out.step0 q)) (And.intro ((H2.out.step0 q).cell 0) (And.intro ((H2.out.step0 q).cell 1) ((H2.out.step0 q).cell 2))))
  have SM := Lib.hid (fun w' (q : Below Wb.heap.size Wb w') => NetSl.law_small n h w.heap.size w' (KW.out w' q).size (NK.out w' q))
  have CV := Lib.hid (fun (hz : SzN n) w' (q : Below Wb.heap.size Wb w') => values_any n h st ip w.heap.size w' vs vi (KW.out w' q).size (NK.out w' q) hz (RS.out w' q) (RI.out w' q))
  have CR := Lib.hid (fun (hz : SzN n) w' (q : Below Wb.heap.size Wb w') => NetRw.r23values_any n h st ip w.heap.size w' vs vi (KW.out w' q).size (NK.out w' q) hz (RS.out w' q) (RI.out w' q))
  have CN := Lib.hid (fun (hz : SzN n) w' (q : Below Wb.heap.size Wb w') => NetNx.next_any n h st ip w.heap.size w' vs vi (KW.out w' q).size (NK.out w' q) hz (RS.out w' q) (RI.out w' q))
  have CM := Lib.hid (fun (hz : SzN n) w' (q : Below Wb.heap.size Wb w') => NetRw.r23next_any n h st ip w.heap.size w' vs vi (KW.out w' q).size (NK.out w' q) hz (RS.out w' q) (RI.out w' q))
  obtain ⟨psl, csl, rfl⟩ := hs.form
  obtain ⟨pil, cil, rfl⟩ := hi.form
  have FW := Lib.hid (fun w' => few_any psl pil st.length csl ip.length cil r w')
  have D0 : Hid (Below Wb.heap.size Wb Wb) := Lib.hid (Below.refl _ _)
  clear k hs hi RS RI NK K1 K2
  have HZ1 := Lib.hid hz1
  clear hz1
  generalize evV groundB st ip n = S at *
  generalize evE groundB st ip n = er at *
  generalize posE groundB st ip n n.next = P at *
  go_enter Try.func3, Try.ntmps3
  go_upto_region 1 with fail
  have e0 := HZ1.out
  rw [← hW1, ← hWb]
  clear hWb hW1 e0
  have C1 := Lib.hid (SM.out Wb D0.out)
  obtain ⟨⟨q1, q2, q3, q4, q5, q6, q7, q8, q9, q10, q11⟩, z1, z2, z3⟩ := HQ.out Wb D0.out
  go_wp2_with fail
  refine C1.out.mono ?_
  rintro e w1 ⟨b1, rfl, s1, g1⟩
  have J1 : Hid (Below Wb.heap.size Wb w1) := Lib.hid g1
  have D1 : Hid (Below Wb.heap.size Wb w1) := Lib.hid (next0 D0.out g1)
  have S1 := Lib.hid s1
  clear s1
  clear g1 C1 q1 q2 q3 q4 q5 q6 q7 q8 q9 q10 q11 z1 z2 z3
  cases b1
  · have C2 := Lib.hid (alive_any w1)
    go_wp2_with fail
    refine C2.out.mono ?_
    rintro e w2 ⟨rfl, g2⟩
    have J2 : Hid (Below w1.heap.size w1 w2) := Lib.hid g2
    have D2 : Hid (Below Wb.heap.size Wb w2) := Lib.hid (next0 D1.out g2)
    clear g2 C2
    have DF := Lib.hid (KW.out _ D2.out)
    go_wp2_with fail
    go_ret
    exact ⟨rfl, DF.out⟩
  have ZN := Lib.hid (sz_of (S1.out rfl))
  clear S1
  have C2 := Lib.hid (FW.out w1)
  obtain ⟨⟨q1, q2, q3, q4, q5, q6, q7, q8, q9, q10, q11⟩, z1, z2, z3⟩ := HQ.out w1 D1.out
  go_wp2_with fail
  refine C2.out.mono ?_
  rintro e w2 ⟨b2, rfl, g2⟩
  have J2 : Hid (Below w1.heap.size w1 w2) := Lib.hid g2
  have D2 : Hid (Below Wb.heap.size Wb w2) := Lib.hid (next0 D1.out g2)
  clear g2 C2 q1 q2 q3 q4 q5 q6 q7 q8 q9 q10 q11 z1 z2 z3
  cases b2
  · have C3 := Lib.hid (alive_any w2)
    go_wp2_with fail
    refine C3.out.mono ?_
    rintro e w3 ⟨rfl, g3⟩
    have J3 : Hid (Below w2.heap.size w2 w3) := Lib.hid g3
    have D3 : Hid (Below Wb.heap.size Wb w3) := Lib.hid (next0 D2.out g3)
    clear g3 C3
    have DF := Lib.hid (KW.out _ D3.out)
    go_wp2_with fail
    go_ret
    exact ⟨rfl, DF.out⟩
  have C3 := Lib.hid (CV.out ZN.out w2 D2.out)
  obtain ⟨⟨q1, q2, q3, q4, q5, q6, q7, q8, q9, q10, q11⟩, z1, z2, z3⟩ := HQ.out w2 D2.out
  go_wp2_with fail
  refine C3.out.mono ?_
  rintro e w3 ⟨v3, rfl, hv3, g3⟩
  have J3 : Hid (Below w2.heap.size w2 w3) := Lib.hid g3
  have D3 : Hid (Below Wb.heap.size Wb w3) := Lib.hid (next0 D2.out g3)
  have G3 := Lib.hid hv3
  obtain ⟨p3, c3, rfl⟩ := hv3.form
  clear hv3
  clear g3 C3 q1 q2 q3 q4 q5 q6 q7 q8 q9 q10 q11 z1 z2 z3
  have C4 := Lib.hid (CR.out ZN.out w3 D3.out)
  obtain ⟨⟨q1, q2, q3, q4, q5, q6, q7, q8, q9, q10, q11⟩, z1, z2, z3⟩ := HQ.out w3 D3.out
  go_wp2_with fail
  refine C4.out.mono ?_
  rintro e w4 ⟨v4, rfl, hv4, g4⟩
  have J4 : Hid (Below w3.heap.size w3 w4) := Lib.hid g4
  have D4 : Hid (Below Wb.heap.size Wb w4) := Lib.hid (next0 D3.out g4)
  have G4 := Lib.hid hv4
  obtain ⟨p4, c4, rfl⟩ := hv4.form
  clear hv4
  clear g4 C4 q1 q2 q3 q4 q5 q6 q7 q8 q9 q10 q11 z1 z2 z3
  have C5 := Lib.hid (CN.out ZN.out w4 D4.out)
  obtain ⟨⟨q1, q2, q3, q4, q5, q6, q7, q8, q9, q10, q11⟩, z1, z2, z3⟩ := HQ.out w4 D4.out
  go_wp2_with fail
  refine C5.out.mono ?_
  rintro e w5 ⟨v5, rfl, hv5, g5⟩
  have J5 : Hid (Below w4.heap.size w4 w5) := Lib.hid g5
  have D5 : Hid (Below Wb.heap.size Wb w5) := Lib.hid (next0 D4.out g5)
  have G5 := Lib.hid hv5
  obtain ⟨p5, c5, rfl⟩ := hv5.form
  clear hv5
  clear g5 C5 q1 q2 q3 q4 q5 q6 q7 q8 q9 q10 q11 z1 z2 z3
  have C6 := Lib.hid (CM.out ZN.out w5 D5.out)
  obtain ⟨⟨q1, q2, q3, q4, q5, q6, q7, q8, q9, q10, q11⟩, z1, z2, z3⟩ := HQ.out w5 D5.out
  go_wp2_with fail
  refine C6.out.mono ?_
  rintro e w6 ⟨v6, rfl, hv6, g6⟩
  have J6 : Hid (Below w5.heap.size w5 w6) := Lib.hid g6
  have D6 : Hid (Below Wb.heap.size Wb w6) := Lib.hid (next0 D5.out g6)
  have G6 := Lib.hid hv6
  obtain ⟨p6, c6, rfl⟩ := hv6.form
  clear hv6
  clear g6 C6 q1 q2 q3 q4 q5 q6 q7 q8 q9 q10 q11 z1 z2 z3
  have C7 := Lib.hid (alive_any w6)
  go_wp2_with fail
  refine C7.out.mono ?_
  rintro e w7 ⟨rfl, g7⟩
  have J7 : Hid (Below w6.heap.size w6 w7) := Lib.hid g7
  have D7 : Hid (Below Wb.heap.size Wb w7) := Lib.hid (next0 D6.out g7)
  clear g7 C7
  have C8 := Lib.hid (bools_eq S w7 _ _ (row_on G3.out (next0 (next0 (next0 J4.out J5.out) J6.out) J7.out)) (row_on G4.out (next0 (next0 J5.out J6.out) J7.out)))
  go_wp2_with fail
  refine C8.out.mono ?_
  rintro e w8 ⟨rfl, g8⟩
  have J8 : Hid (Below w7.heap.size w7 w8) := Lib.hid g8
  have D8 : Hid (Below Wb.heap.size Wb w8) := Lib.hid (next0 D7.out g8)
  clear g8 C8
  have C9 := Lib.hid (ints_eq P w8 _ _ (row_on G5.out (next0 (next0 J6.out J7.out) J8.out)) (row_on G6.out (next0 J7.out J8.out)))
  go_wp2_with fail
  refine C9.out.mono ?_
  rintro e w9 ⟨rfl, g9⟩
  have J9 : Hid (Below w8.heap.size w8 w9) := Lib.hid g9
  have D9 : Hid (Below Wb.heap.size Wb w9) := Lib.hid (next0 D8.out g9)
  clear g9 C9
  have DF := Lib.hid (KW.out _ D9.out)
  go_wp2_with fail
  go_ret
  exact ⟨rfl, DF.out⟩
end NetE1
end Go.Proofs.Ytkfeliogglnngaa
