/- The walk of EvaluateSees. No conditions. Made by gnE5.py. -/
import Derived.Test.YtkfeliogglnngaaGreatNetPt
import Derived.Test.YtkfeliogglnngaaGreatNetA3
import Derived.Test.YtkfeliogglnngaaGreatNetRs
import Derived.Test.YtkfeliogglnngaaGreatTermEq
import Derived.Test.YtkfeliogglnngaaGreatNetSz
namespace Go.Proofs.YtkfeliogglnngaaGreat
open Go Go.RowKit
namespace NetE5
open Kit LexM TermM TermI TermH NetM NetN NetK NetA NetC NetI NetMk NetNu NetOk NetEv NetBo NetMb NetS NetVa NetVv NetTr NetSa NetA3 NetPt NetSl NetSz NetGo NetOu NetGl NetSe
theorem sl_on {w w' : World} {L : List Tm} {v : Value} (h : SlIn (· < w.heap.size) w L v) (q : Below w.heap.size w w') : SlIn (· < w'.heap.size) w' L v := (h.deep q (Nat.le_refl _)).weaken fun _ hb => Nat.lt_of_lt_of_le hb q.size
theorem terms_eq (L : List Tm) (w : World) (v v' : Value) (h : SlIn (· < w.heap.size) w L v) (h' : SlIn (· < w.heap.size) w L v') : Calls Tryz.prog 18 #[v, v'] w fun e w' => e = .returned (.bool true) ∧ Below w.heap.size w w' :=
  (TermEq.terms_of L L (fun x _ => TermEq.term_any x) true (by simp) w.heap.size w v v' (Nat.le_refl _) h h').mono fun _ _ h => ⟨h.1, h.2.1⟩
set_option maxRecDepth 100000 in
set_option maxHeartbeats 3200000 in
theorem r23sees_any (n : Nt) (h : Nh) (st ip : List Int) (r : Int) (B : Nat) (w : World) (vs vi : Value) (hB : B ≤ w.heap.size) (k : NetIn (· < B) w n h) (hz : SzN n) (hs : RowE KN (· < B) w st vs) (hi : RowE KN (· < B) w ip vi) :
    Calls Tryz.prog 17 #[.agg #[.slice h.gp n.gates.length h.gc, .slice h.rp n.roles.length h.rc, .slice h.bp n.bases.length h.bc, .slice h.ip n.inputs.length h.ic, .slice h.ap n.initial.length h.ac, .slice h.np n.next.length h.nc, .slice h.lp n.legal.length h.lc, .slice h.op n.goals.length h.oc, .slice h.sp n.sees.length h.sc, .int .i64 n.last, .bool n.hid], vs, vi, .int .i64 r] w (TsE (seeE groundB st ip n r) (ouE groundB st ip n r) w) := by
  obtain ⟨W1, hW1⟩ : ∃ z, z = w.alloc (.cells #[.slice h.gp n.gates.length h.gc, .slice h.rp n.roles.length h.rc, .slice h.bp n.bases.length h.bc, .slice h.ip n.inputs.length h.ic, .slice h.ap n.initial.length h.ac, .slice h.np n.next.length h.nc, .slice h.lp n.legal.length h.lc, .slice h.op n.goals.length h.oc, .slice h.sp n.sees.length h.sc, .int .i64 n.last, .bool n.hid] 28) := ⟨_, rfl⟩
  have K1 : Hid (Below w.heap.size w W1) := Lib.hid (by rw [hW1]; exact below_alloc _ _)
  have H1 : Hid (Has W1 w.heap.size (netC n h)) := Lib.hid (by rw [hW1]; exact Has.new _ _ _)
  have hzz := K1.out.size
  have KW := Lib.hid (fun w' (q : Below W1.heap.size W1 w') => show Below w.heap.size w w' from K1.out.trans (q.mono hzz))
  have NK := Lib.hid (fun w' (q : Below W1.heap.size W1 w') => k.deep (KW.out w' q) hB)
  have HQ := Lib.hid (fun w' (q : Below W1.heap.size W1 w') => hasN (H1.out.step0 q))
  have C1 := Lib.hid (NetRs.rsees_any n h st ip r B W1 vs vi (Nat.le_trans hB hzz) (NK.out W1 (Below.refl _ _)) hz (hs.keep fun b o (hb : b < B) => K1.out.cell (p := ⟨b, o, none⟩) (Nat.lt_of_lt_of_le hb hB)) (hi.keep fun b o (hb : b < B) => K1.out.cell (p := ⟨b, o, none⟩) (Nat.lt_of_lt_of_le hb hB)))
  obtain ⟨psl, csl, rfl⟩ := hs.form
  obtain ⟨pil, cil, rfl⟩ := hi.form
  clear k hz hs hi
  obtain ⟨q1, q2, q3, q4, q5, q6, q7, q8, q9, q10, q11⟩ := HQ.out W1 (Below.refl _ _)
  generalize seeE groundB st ip n r = L at *
  generalize ouE groundB st ip n r = er at *
  go_enter Tryz.func17, Tryz.ntmps17
  go_upto_region 1 with fail
  rw [← hW1]
  clear hW1
  go_wp2_with fail
  refine C1.out.mono ?_
  rintro e w4 ⟨v4, rfl, hv4, g4⟩
  have DD4 := Lib.hid (KW.out _ (next0 (Below.refl W1.heap.size W1) g4))
  have R4 := Lib.hid hv4
  obtain ⟨p4, c4, rfl⟩ := hv4.form
  clear g4 C1 hv4 q1 q2 q3 q4 q5 q6 q7 q8 q9 q10 q11
  go_wp2_with fail
  refine bodyPost_ret (v := .tuple #[.slice p4 L.length c4, .int .i64 er]) (by simp [results, Tryz.results17, go_sem]) rfl ?_
  exact TsE.mk R4.out DD4.out
set_option maxRecDepth 100000 in
set_option maxHeartbeats 6400000 in
theorem law (n : Nt) (h : Nh) (st ip : List Int) (r : Int) (w : World) (vs vi : Value) (k : NetIn (· < w.heap.size) w n h) (hs : RowE KN (· < w.heap.size) w st vs) (hi : RowE KN (· < w.heap.size) w ip vi) :
    Calls Tryz.prog 4 #[.agg #[.slice h.gp n.gates.length h.gc, .slice h.rp n.roles.length h.rc, .slice h.bp n.bases.length h.bc, .slice h.ip n.inputs.length h.ic, .slice h.ap n.initial.length h.ac, .slice h.np n.next.length h.nc, .slice h.lp n.legal.length h.lc, .slice h.op n.goals.length h.oc, .slice h.sp n.sees.length h.sc, .int .i64 n.last, .bool n.hid], .agg #[vs, vi, .int .i64 r]] w fun e w' => e = .returned (.bool true) ∧ Below w.heap.size w w' := by
  obtain ⟨W1, hW1⟩ : ∃ z, z = w.alloc (.cells #[.slice h.gp n.gates.length h.gc, .slice h.rp n.roles.length h.rc, .slice h.bp n.bases.length h.bc, .slice h.ip n.inputs.length h.ic, .slice h.ap n.initial.length h.ac, .slice h.np n.next.length h.nc, .slice h.lp n.legal.length h.lc, .slice h.op n.goals.length h.oc, .slice h.sp n.sees.length h.sc, .int .i64 n.last, .bool n.hid] 28) := ⟨_, rfl⟩
  obtain ⟨Wb, hWb⟩ : ∃ z, z = W1.alloc (.cells #[vs, vi, .int .i64 r] 30) := ⟨_, rfl⟩
  have K1 : Hid (Below w.heap.size w W1) := Lib.hid (by rw [hW1]; exact below_alloc _ _)
  have K2 : Hid (Below W1.heap.size W1 Wb) := Lib.hid (by rw [hWb]; exact below_alloc _ _)
  have hz1 : W1.heap.size = w.heap.size + 1 := by rw [hW1]; simp
  have BB : Hid (Below w.heap.size w Wb) := Lib.hid (next0 K1.out K2.out)
  have H1 : Hid (Has Wb w.heap.size (netC n h)) := Lib.hid (by rw [hWb, hW1]; exact (Has.new _ _ _).alloc _)
  have H2 : Hid (Has Wb (w.heap.size + 1) #[vs, vi, .int .i64 r]) := Lib.hid (by rw [hWb, ← hz1]; exact Has.new _ _ _)
  have hzB := BB.out.size
  have KW := Lib.hid (fun w' (q : Below Wb.heap.size Wb w') => show Below w.heap.size w w' from BB.out.trans (q.mono hzB))
  have NK := Lib.hid (fun w' (q : Below Wb.heap.size Wb w') => k.deep (KW.out w' q) (Nat.le_refl _))
  have RS := Lib.hid (fun w' (q : Below Wb.heap.size Wb w') => hs.keep (w' := w') fun b o (hb : b < w.heap.size) => (KW.out w' q).cell (p := ⟨b, o, none⟩) hb)
  have RI := Lib.hid (fun w' (q : Below Wb.heap.size Wb w') => hi.keep (w' := w') fun b o (hb : b < w.heap.size) => (KW.out w' q).cell (p := ⟨b, o, none⟩) hb)
  have HQ := Lib.hid (fun w' (q : Below Wb.heap.size Wb w') => And.intro (hasN (H1.out.step0 q)) (And.intro ((H2.out.step0 q).cell 0) (And.intro ((H2.out.step0 q).cell 1) ((H2.out.step0 q).cell 2))))
  have SM := Lib.hid (fun w' (q : Below Wb.heap.size Wb w') => NetSl.law_small n h w.heap.size w' (KW.out w' q).size (NK.out w' q))
  have CA1 := Lib.hid (fun (hz : SzN n) w' (q : Below Wb.heap.size Wb w') => sees_any n h st ip r w.heap.size w' vs vi (KW.out w' q).size (NK.out w' q) hz (RS.out w' q) (RI.out w' q))
  have CA2 := Lib.hid (fun (hz : SzN n) w' (q : Below Wb.heap.size Wb w') => r23sees_any n h st ip r w.heap.size w' vs vi (KW.out w' q).size (NK.out w' q) hz (RS.out w' q) (RI.out w' q))
  obtain ⟨psl, csl, rfl⟩ := hs.form
  obtain ⟨pil, cil, rfl⟩ := hi.form
  have FW := Lib.hid (fun w' => few_any psl pil st.length csl ip.length cil r w')
  have D0 : Hid (Below Wb.heap.size Wb Wb) := Lib.hid (Below.refl _ _)
  clear k hs hi RS RI NK K1 K2
  have HZ1 := Lib.hid hz1
  clear hz1
  generalize ouE groundB st ip n r = eo at *
  generalize seeE groundB st ip n r = P at *
  go_enter Tryz.func4, Tryz.ntmps4
  go_upto_region 1 with fail
  have e0 := HZ1.out
  rw [← hW1, ← hWb]
  clear hWb hW1 e0
  have C1 := Lib.hid (SM.out Wb D0.out)
  obtain ⟨⟨q1, q2, q3, q4, q5, q6, q7, q8, q9, q10, q11⟩, z1, z2, z3⟩ := HQ.out Wb D0.out
  go_wp2_with fail
  refine C1.out.mono ?_
  rintro e w1 ⟨b1, rfl, s1, g1⟩
  have J1 : Hid (Below Wb.heap.size Wb w1) := Lib.hid g1
  have D1 : Hid (Below Wb.heap.size Wb w1) := Lib.hid (next0 D0.out g1)
  have S1 := Lib.hid s1
  clear s1
  clear g1 C1 q1 q2 q3 q4 q5 q6 q7 q8 q9 q10 q11 z1 z2 z3
  cases b1
  · have C2 := Lib.hid (alive_any w1)
    go_wp2_with fail
    refine C2.out.mono ?_
    rintro e w2 ⟨rfl, g2⟩
    have J2 : Hid (Below w1.heap.size w1 w2) := Lib.hid g2
    have D2 : Hid (Below Wb.heap.size Wb w2) := Lib.hid (next0 D1.out g2)
    clear g2 C2
    have DF := Lib.hid (KW.out _ D2.out)
    go_wp2_with fail
    go_ret
    exact ⟨rfl, DF.out⟩
  have ZN := Lib.hid (sz_of (S1.out rfl))
  clear S1
  have C2 := Lib.hid (FW.out w1)
  obtain ⟨⟨q1, q2, q3, q4, q5, q6, q7, q8, q9, q10, q11⟩, z1, z2, z3⟩ := HQ.out w1 D1.out
  go_wp2_with fail
  refine C2.out.mono ?_
  rintro e w2 ⟨b2, rfl, g2⟩
  have J2 : Hid (Below w1.heap.size w1 w2) := Lib.hid g2
  have D2 : Hid (Below Wb.heap.size Wb w2) := Lib.hid (next0 D1.out g2)
  clear g2 C2 q1 q2 q3 q4 q5 q6 q7 q8 q9 q10 q11 z1 z2 z3
  cases b2
  · have C3 := Lib.hid (alive_any w2)
    go_wp2_with fail
    refine C3.out.mono ?_
    rintro e w3 ⟨rfl, g3⟩
    have J3 : Hid (Below w2.heap.size w2 w3) := Lib.hid g3
    have D3 : Hid (Below Wb.heap.size Wb w3) := Lib.hid (next0 D2.out g3)
    clear g3 C3
    have DF := Lib.hid (KW.out _ D3.out)
    go_wp2_with fail
    go_ret
    exact ⟨rfl, DF.out⟩
  have C3 := Lib.hid (CA1.out ZN.out w2 D2.out)
  obtain ⟨⟨q1, q2, q3, q4, q5, q6, q7, q8, q9, q10, q11⟩, z1, z2, z3⟩ := HQ.out w2 D2.out
  go_wp2_with fail
  refine C3.out.mono ?_
  rintro e w3 ⟨v3, rfl, hv3, g3⟩
  have J3 : Hid (Below w2.heap.size w2 w3) := Lib.hid g3
  have D3 : Hid (Below Wb.heap.size Wb w3) := Lib.hid (next0 D2.out g3)
  have G3 := Lib.hid hv3
  obtain ⟨p3, c3, rfl⟩ := hv3.form
  clear hv3
  clear g3 C3 q1 q2 q3 q4 q5 q6 q7 q8 q9 q10 q11 z1 z2 z3
  have C4 := Lib.hid (CA2.out ZN.out w3 D3.out)
  obtain ⟨⟨q1, q2, q3, q4, q5, q6, q7, q8, q9, q10, q11⟩, z1, z2, z3⟩ := HQ.out w3 D3.out
  go_wp2_with fail
  refine C4.out.mono ?_
  rintro e w4 ⟨v4, rfl, hv4, g4⟩
  have J4 : Hid (Below w3.heap.size w3 w4) := Lib.hid g4
  have D4 : Hid (Below Wb.heap.size Wb w4) := Lib.hid (next0 D3.out g4)
  have G4 := Lib.hid hv4
  obtain ⟨p4, c4, rfl⟩ := hv4.form
  clear hv4
  clear g4 C4 q1 q2 q3 q4 q5 q6 q7 q8 q9 q10 q11 z1 z2 z3
  have C5 := Lib.hid (alive_any w4)
  go_wp2_with fail
  refine C5.out.mono ?_
  rintro e w5 ⟨rfl, g5⟩
  have J5 : Hid (Below w4.heap.size w4 w5) := Lib.hid g5
  have D5 : Hid (Below Wb.heap.size Wb w5) := Lib.hid (next0 D4.out g5)
  clear g5 C5
  have C6 := Lib.hid (terms_eq P w5 _ _ (sl_on G3.out (next0 J4.out J5.out)) (sl_on G4.out J5.out))
  go_wp2_with fail
  refine C6.out.mono ?_
  rintro e w6 ⟨rfl, g6⟩
  have J6 : Hid (Below w5.heap.size w5 w6) := Lib.hid g6
  have D6 : Hid (Below Wb.heap.size Wb w6) := Lib.hid (next0 D5.out g6)
  clear g6 C6
  have DF := Lib.hid (KW.out _ D6.out)
  go_wp2_with fail
  go_ret
  exact ⟨rfl, DF.out⟩
end NetE5
end Go.Proofs.YtkfeliogglnngaaGreat
