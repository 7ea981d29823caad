/- The walk of NormalLists. Conditions: the heads' keys are short where they are small; term.Text's table is laid. -/
import Derived.Test.YtdkpflojdnkbnaaGreatDoorHCF
import Derived.Test.YtdkpflojdnkbnaaGreatDoorHNolC
import Derived.Test.YtdkpflojdnkbnaaGreatDoorHNolQ
namespace Go.Proofs.YtdkpflojdnkbnaaGreatDoor
open Go Go.RowKit
namespace NolS
open Kit LexM TermM TermI TermN TermU TermT UniK UniM UnpP LigM SmrA NorM NosF NosV NosH NosI NolA
theorem eq_det {a b : List Rl} {R R' : Bool} {c c' : Int} (h : EqOf a b R c) (k : EqOf a b R' c') : R = R' ∧ c = c' := by
  by_cases ha : codeL a = 0
  · by_cases hb : codeL b = 0
    · obtain ⟨h1, h2⟩ := h.2.2 ha hb
      obtain ⟨k1, k2⟩ := k.2.2 ha hb
      exact ⟨Bool.eq_iff_iff.2 (h2.trans k2.symm), h1.trans k1.symm⟩
    · obtain ⟨h1, h2⟩ := h.2.1 ha hb
      obtain ⟨k1, k2⟩ := k.2.1 ha hb
      exact ⟨h1.trans k1.symm, h2.trans k2.symm⟩
  · obtain ⟨h1, h2⟩ := h.1 ha
    obtain ⟨k1, k2⟩ := k.1 ha
    exact ⟨h1.trans k1.symm, h2.trans k2.symm⟩
set_option maxRecDepth 100000 in
set_option maxHeartbeats 6400000 in
theorem lists2 (N : Nat) (h4 : 4 ≤ N) (hN : (N + 3) * 4000000 ≤ 4611686018427387904) (a b : List Rl) (w : World) (av bv : Value) (hw : Wd w) (ha : RIn (· < w.heap.size) w a av) (hka : ∀ x ∈ a, sizeT x.1 ≤ 20 → klen x.1 ≤ N) (hb : RIn (· < w.heap.size) w b bv) (hkb : ∀ x ∈ b, sizeT x.1 ≤ 20 → klen x.1 ≤ N) :
    Calls Tryz.prog 5 #[av, bv] w fun e w' => e = .returned (.bool true) ∧ Below w.heap.size w w' := by
  have KA := fun w' (q : Below w.heap.size w w') => ha.keep (w' := w') fun b o hb => q.cell (p := ⟨b, o, none⟩) hb
  have KB := fun w' (q : Below w.heap.size w w') => hb.keep (w' := w') fun b o hb => q.cell (p := ⟨b, o, none⟩) hb
  have CA := Lib.hid (fun w' (q : Below w.heap.size w w') => NosY.awake_any w' (hw.below q hw.1))
  have SA := Lib.hid (SmrA.rules_any N h4 hN a 12 (by decide) w _ ha hka)
  have SB := Lib.hid (fun w' (q : Below w.heap.size w w') => SmrA.rules_any N h4 hN b 12 (by decide) w' _ ((KB w' q).wide fun b hb => Nat.lt_of_lt_of_le hb q.size) hkb)
  have RA := Lib.hid (fun w' (q : Below w.heap.size w w') => NosH.rules_any a w.heap.size w' _ (hw.below q hw.1) q.size (KA w' q))
  have RR := Lib.hid (fun w' (q : Below w.heap.size w w') => NolP.rrules_any a w.heap.size w' _ q.size (KA w' q))
  have EA := Lib.hid (fun w' (q : Below w.heap.size w w') => NosI.equal_any a b w.heap.size w' _ _ (hw.below q hw.1) q.size (KA w' q) (KB w' q))
  have ER := Lib.hid (fun w' (q : Below w.heap.size w w') => NolQ.requal_any a b w.heap.size w' _ _ q.size (KA w' q) (KB w' q))
  obtain ⟨pa, ca, rfl⟩ := ha.form
  obtain ⟨pb, cb, rfl⟩ := hb.form
  unfold SmrQ at SA SB
  unfold RlR at RA RR
  unfold EqR at EA ER
  clear KA KB ha hb hw hka hkb h4 hN
  generalize a.length = la at *
  generalize b.length = lb at *
  generalize hk1 : codeL a = k1 at *
  clear hk1
  have i1 : (k1 == k1) = true := by simp
  go_enter Tryz.func5, Tryz.ntmps5
  go_wp2_with fail
  refine SA.out.mono ?_
  rintro e w1 ⟨B1, rfl, hB1, q1⟩
  have Q1 := Lib.hid q1
  clear hB1 SA q1
  cases B1
  · go_wp2_with fail
    refine (CA.out _ Q1.out).mono ?_
    rintro e w4 ⟨rfl, k⟩
    have D := Lib.hid (next0 Q1.out k)
    clear k
    go_wp2_with fail
    go_ret
    exact ⟨rfl, D.out⟩
  go_wp2_with fail
  refine (SB.out w1 Q1.out).mono ?_
  rintro e w2 ⟨B2, rfl, hB2, q2⟩
  have Q2 := Lib.hid (next0 Q1.out q2)
  clear hB2 SB q2 Q1
  cases B2
  · go_wp2_with fail
    refine (CA.out _ Q2.out).mono ?_
    rintro e w4 ⟨rfl, k⟩
    have D := Lib.hid (next0 Q2.out k)
    clear k
    go_wp2_with fail
    go_ret
    exact ⟨rfl, D.out⟩
  go_wp2_with fail
  refine (RA.out w2 Q2.out).mono ?_
  rintro e w3 ⟨m, v3, rfl, hr3, hi3, q3⟩
  have R3 := Lib.hid hr3
  have I3 := Lib.hid hi3
  have Q3 := Lib.hid (next0 Q2.out q3)
  obtain ⟨p3, c3, rfl⟩ := hi3.form
  clear hr3 hi3 q3 RA Q2
  go_wp2_with fail
  refine (RR.out w3 Q3.out).mono ?_
  rintro e w4 ⟨m', v4, rfl, hr4, hi4, q4⟩
  obtain rfl := rs_det hr4 R3.out
  have Q4 := Lib.hid (next0 Q3.out q4)
  have PE := Lib.hid (fun w' (g : Below w4.heap.size w4 w') => NolC.rules_of m' m' true (by simp) w'.heap.size w' _ _ (Nat.le_refl _) ((I3.out.keep (w' := w') fun b o hb => (next0 q4 g).cell (p := ⟨b, o, none⟩) hb.2).wide fun b hb => Nat.lt_of_lt_of_le hb.2 (next0 q4 g).size) ((hi4.keep (w' := w') fun b o hb => g.cell (p := ⟨b, o, none⟩) hb.2).wide fun b hb => Nat.lt_of_lt_of_le hb.2 g.size))
  obtain ⟨p4, c4, rfl⟩ := hi4.form
  clear hr4 hi4 q4 RR Q3 R3 I3
  generalize m'.length = ml at *
  go_wp2_with fail
  refine (EA.out w4 Q4.out).mono ?_
  rintro e w5 ⟨R1, c5, rfl, he1, q5⟩
  have E1 := Lib.hid he1
  have G5 := Lib.hid q5
  have Q5 := Lib.hid (next0 Q4.out q5)
  clear he1 q5 EA Q4
  go_wp2_with fail
  refine (ER.out w5 Q5.out).mono ?_
  rintro e w6 ⟨R2, c6, rfl, he2, q6⟩
  obtain ⟨rfl, rfl⟩ := eq_det he2 E1.out
  have G6 := Lib.hid (next0 G5.out q6)
  have Q6 := Lib.hid (next0 Q5.out q6)
  have i2 : (R2 == R2) = true := by simp
  have i3 : (c6 == c6) = true := by simp
  clear he2 E1 q6 ER Q5 G5
  go_wp2_with fail
  refine (PE.out w6 G6.out).mono ?_
  rintro e w7 ⟨rfl, g7⟩
  have Q7 := Lib.hid (next0 Q6.out g7.1)
  clear g7
  go_wp2_with fail
  refine (CA.out _ Q7.out).mono ?_
  rintro e w8 ⟨rfl, k8⟩
  have D := Lib.hid (next0 Q7.out k8)
  clear k8
  go_wp2_with fail
  go_ret
  exact ⟨rfl, D.out⟩
end NolS
end Go.Proofs.YtdkpflojdnkbnaaGreatDoor
