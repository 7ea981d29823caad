/- The walk of NormalRules. Conditions: the heads' keys are short where they are small; term.Text's table is laid. -/
import Derived.Test.YtdkpflojdnkbnaaGreatDoorHCF
import Derived.Test.YtdkpflojdnkbnaaGreatDoorHNolO
namespace Go.Proofs.YtdkpflojdnkbnaaGreatDoor
open Go Go.RowKit
namespace NolR
open Kit LexM TermM TermI TermN TermU TermT UniK UniM UnpP LigM SmrA NorM NosF NosI NolA
theorem eq_det {a b : List Rl} {R R' : Bool} {c c' : Int} (h : EqOf a b R c) (k : EqOf a b R' c') : R = R' ∧ c = c' := by
  by_cases ha : NosV.codeL a = 0
  · by_cases hb : NosV.codeL b = 0
    · obtain ⟨h1, h2⟩ := h.2.2 ha hb
      obtain ⟨k1, k2⟩ := k.2.2 ha hb
      exact ⟨Bool.eq_iff_iff.2 (h2.trans k2.symm), h1.trans k1.symm⟩
    · obtain ⟨h1, h2⟩ := h.2.1 ha hb
      obtain ⟨k1, k2⟩ := k.2.1 ha hb
      exact ⟨h1.trans k1.symm, h2.trans k2.symm⟩
  · obtain ⟨h1, h2⟩ := h.1 ha
    obtain ⟨k1, k2⟩ := k.1 ha
    exact ⟨h1.trans k1.symm, h2.trans k2.symm⟩
set_option maxRecDepth 100000 in
set_option maxHeartbeats 6400000 in
theorem rules2 (N : Nat) (h4 : 4 ≤ N) (hN : (N + 3) * 4000000 ≤ 4611686018427387904) (a b : Rl) (w : World) (sa ta sb tb : Value) (hw : Wd w) (hna : a.1.nm.size ≤ maxLen) (ha : SlIn (· < w.heap.size) w a.1.args sa) (hla : LIn (· < w.heap.size) w a.2 ta) (hka : sizeT a.1 ≤ 20 → klen a.1 ≤ N) (hnb : b.1.nm.size ≤ maxLen) (hb : SlIn (· < w.heap.size) w b.1.args sb) (hlb : LIn (· < w.heap.size) w b.2 tb) (hkb : sizeT b.1 ≤ 20 → klen b.1 ≤ N) :
    Calls Tryz.prog 4 #[.agg #[.string a.1.nm, sa, ta], .agg #[.string b.1.nm, sb, tb]] w fun e w' => e = .returned (.bool true) ∧ Below w.heap.size w w' := by
  obtain ⟨pa, ca, rfl⟩ := ha.form
  obtain ⟨qa, da, rfl⟩ := hla.form
  obtain ⟨pb, cb, rfl⟩ := hb.form
  obtain ⟨qb, db, rfl⟩ := hlb.form
  obtain ⟨W2, hW2⟩ : ∃ W2, W2 = (w.alloc (.cells #[.string a.1.nm, .slice pa a.1.args.length ca, .slice qa a.2.length da] 27)).alloc (.cells #[.string b.1.nm, .slice pb b.1.args.length cb, .slice qb b.2.length db] 27) := ⟨_, rfl⟩
  have G0 : Hid (Below w.heap.size w W2) := Lib.hid (by rw [hW2]; exact b_more (below_alloc w _) _)
  have ZW : Hid (w.heap.size ≤ W2.heap.size) := Lib.hid G0.out.size
  have Ha : Has W2 w.heap.size #[.string a.1.nm, .slice pa a.1.args.length ca, .slice qa a.2.length da] := by rw [hW2]; exact (Has.new _ _ _).alloc _
  have HbX : Has W2 (w.heap.size + 1) #[.string b.1.nm, .slice pb b.1.args.length cb, .slice qb b.2.length db] := by rw [hW2]; exact Has.new1 _ _ _ _
  have QW : ∀ w', Below W2.heap.size W2 w' → Below w.heap.size w w' := fun w' q => G0.out.trans (q.mono ZW.out)
  have CA := Lib.hid (fun w' (q : Below W2.heap.size W2 w') => NosY.awake_any w' (hw.below (QW w' q) hw.1))
  obtain ⟨W4, hW4⟩ : ∃ W4, W4 = W2.alloc (.cells #[.string a.1.nm, .slice pa a.1.args.length ca, .slice qa a.2.length da, .string b.1.nm, .slice pb b.1.args.length cb, .slice qb b.2.length db] 27) := ⟨_, rfl⟩
  have J4 : Hid (Below W2.heap.size W2 W4) := Lib.hid (by rw [hW4]; exact below_alloc _ _)
  have CS := Lib.hid (small_any N h4 hN [a, b] W4 _ (rin_has (ok := (· < W4.heap.size)) (g := W2.heap.size) (L := [(a, .slice pa a.1.args.length ca, .slice qa a.2.length da), (b, .slice pb b.1.args.length cb, .slice qb b.2.length db)]) (by rw [hW4]; exact Has.new _ _ _) (fun x hx => by
    simp only [List.mem_cons, List.not_mem_nil, or_false] at hx
    have hz : w.heap.size ≤ W4.heap.size := (QW W4 J4.out).size
    rcases hx with rfl | rfl
    · exact ⟨(ha.deep (QW W4 J4.out) (Nat.le_refl _)).weaken fun b hb => Nat.lt_of_lt_of_le hb hz, hna, (hla.keep fun b o hb => (QW W4 J4.out).cell (p := ⟨b, o, none⟩) hb).wide fun b hb => Nat.lt_of_lt_of_le hb hz⟩
    · exact ⟨(hb.deep (QW W4 J4.out) (Nat.le_refl _)).weaken fun b hb => Nat.lt_of_lt_of_le hb hz, hnb, (hlb.keep fun b o hb => (QW W4 J4.out).cell (p := ⟨b, o, none⟩) hb).wide fun b hb => Nat.lt_of_lt_of_le hb hz⟩
    ) (by rw [hW4]; simp) (by simp)) (fun x hx => by
    simp only [List.mem_cons, List.not_mem_nil, or_false] at hx
    rcases hx with rfl | rfl
    · exact hka
    · exact hkb
    ))
  unfold SmrQ at CS
  have ea : (a.1, a.2) = a := rfl
  have RA := Lib.hid (fun w' (q : Below W2.heap.size W2 w') => NosF.rule_any a.1 a.2 w.heap.size w' _ _ (Nat.le_trans ZW.out q.size) (ha.deep (QW w' q) (Nat.le_refl _)) (hla.keep fun b o hb => (QW w' q).cell (p := ⟨b, o, none⟩) hb) hna)
  have RR := Lib.hid (fun w' (q : Below W2.heap.size W2 w') => NolN.rrule_any a.1 a.2 w.heap.size w' _ _ (Nat.le_trans ZW.out q.size) (ha.deep (QW w' q) (Nat.le_refl _)) (hla.keep fun b o hb => (QW w' q).cell (p := ⟨b, o, none⟩) hb) hna)
  rw [ea] at RA RR
  unfold NfR at RA RR
  have SA := Lib.hid (fun w' (q : Below W2.heap.size W2 w') => NosI.same_any a b w.heap.size w' _ _ _ _ (hw.below (QW w' q) hw.1) (Nat.le_trans ZW.out q.size) (ha.deep (QW w' q) (Nat.le_refl _)) (hla.keep fun b o hb => (QW w' q).cell (p := ⟨b, o, none⟩) hb) hna (hb.deep (QW w' q) (Nat.le_refl _)) (hlb.keep fun b o hb => (QW w' q).cell (p := ⟨b, o, none⟩) hb) hnb)
  have SR := Lib.hid (fun w' (q : Below W2.heap.size W2 w') => NolO.rsame_any a b w.heap.size w' _ _ _ _ (Nat.le_trans ZW.out q.size) (ha.deep (QW w' q) (Nat.le_refl _)) (hla.keep fun b o hb => (QW w' q).cell (p := ⟨b, o, none⟩) hb) hna (hb.deep (QW w' q) (Nat.le_refl _)) (hlb.keep fun b o hb => (QW w' q).cell (p := ⟨b, o, none⟩) hb) hnb)
  unfold EqR at SA SR
  have Hb : Hid (∀ w', Below W2.heap.size W2 w' → w'.cell? ⟨w.heap.size, 0, none⟩ = some (.string a.1.nm) ∧ w'.cell? ⟨w.heap.size, 1, none⟩ = some (.slice pa a.1.args.length ca) ∧ w'.cell? ⟨w.heap.size, 2, none⟩ = some (.slice qa a.2.length da) ∧ w'.cell? ⟨w.heap.size + 1, 0, none⟩ = some (.string b.1.nm) ∧ w'.cell? ⟨w.heap.size + 1, 1, none⟩ = some (.slice pb b.1.args.length cb) ∧ w'.cell? ⟨w.heap.size + 1, 2, none⟩ = some (.slice qb b.2.length db) ∧ Hid (Below W2.heap.size W2 w') ∧ W2.heap.size ≤ w'.heap.size) := Lib.hid (fun w' q => ⟨(Ha.step0 q).cell 0, (Ha.step0 q).cell 1, (Ha.step0 q).cell 2, (HbX.step0 q).cell 0, (HbX.step0 q).cell 1, (HbX.step0 q).cell 2, Lib.hid q, q.size⟩)
  have QH := Lib.hid QW
  clear ha hb hla hlb Ha HbX QW hw hka hkb hna hnb h4 hN ea
  generalize a.1.nm = na at *
  generalize a.1.args.length = la at *
  generalize a.2.length = ma at *
  generalize b.1.nm = nb at *
  generalize b.1.args.length = lb at *
  generalize b.2.length = mb at *
  generalize hk1 : codeN a = k1 at *
  clear hk1
  have i1 : (k1 == k1) = true := by simp
  obtain ⟨r1, r2, r3, r4, r5, r6, r7, r8⟩ := Hb.out _ (Below.refl _ _)
  go_enter Tryz.func4, Tryz.ntmps4
  go_upto_region 1 with fail
  rw [← hW2]
  clear hW2
  go_wp2_with fail
  rw [← hW4]
  clear hW4
  refine CS.out.mono ?_
  rintro e w3 ⟨B, rfl, hB0, k⟩
  clear hB0
  clear r1 r2 r3 r4 r5 r6 r7 r8 CS
  obtain ⟨y1, y2, y3, y4, y5, y6, y7, y8⟩ := Hb.out _ (next0 J4.out k)
  clear k
  cases B
  · go_wp2_with fail
    refine (CA.out _ y7.out).mono ?_
    rintro e w4 ⟨rfl, k⟩
    have D := Lib.hid (next0 (QH.out _ y7.out) k)
    clear k
    go_wp2_with fail
    go_ret
    exact ⟨rfl, D.out⟩
  have RA1 := Lib.hid (RA.out w3 y7.out)
  clear RA
  go_wp2_with fail
  refine RA1.out.mono ?_
  rintro e w5 ⟨x, q5, d5, v5, rfl, hnf5, hs5, hl5, hn5, k5⟩
  obtain ⟨p5, c5, rfl⟩ := hl5.form
  obtain ⟨W6, hW6⟩ : ∃ z, z = w5.alloc (.cells #[.string x.1.nm, .slice q5 x.1.args.length d5, .slice p5 x.2.length c5] 27) := ⟨_, rfl⟩
  have J6 : Hid (Below w5.heap.size w5 W6) := Lib.hid (by rw [hW6]; exact below_alloc _ _)
  have H6 : Hid (Has W6 w5.heap.size #[.string x.1.nm, .slice q5 x.1.args.length d5, .slice p5 x.2.length c5]) := Lib.hid (by rw [hW6]; exact Has.new _ _ _)
  have Q6 := Lib.hid (next0 (next0 y7.out k5) J6.out)
  have SX := Lib.hid (fun w' (g : Below W6.heap.size W6 w') => (hs5.frame (w' := w') fun b o hb => (g.cell (p := ⟨b, o, none⟩) (show b < W6.heap.size from Nat.lt_of_lt_of_le hb.2 J6.out.size)).trans (J6.out.cell (p := ⟨b, o, none⟩) hb.2)).weaken (ok' := (· < w'.heap.size)) fun b hb => Nat.lt_of_lt_of_le (Nat.lt_of_lt_of_le hb.2 J6.out.size) g.size)
  have LX := Lib.hid (fun w' (g : Below W6.heap.size W6 w') => (hl5.keep (w' := w') fun b o hb => (g.cell (p := ⟨b, o, none⟩) (show b < W6.heap.size from Nat.lt_of_lt_of_le hb.2 J6.out.size)).trans (J6.out.cell (p := ⟨b, o, none⟩) hb.2)).wide (ok' := (· < w'.heap.size)) fun b hb => Nat.lt_of_lt_of_le (Nat.lt_of_lt_of_le hb.2 J6.out.size) g.size)
  have NX := Lib.hid hnf5
  clear hnf5 hs5 hl5 hn5 k5 RA1 y1 y2 y3 y4 y5 y6 y7 y8 J6
  go_upto_region 4 with fail
  rw [← hW6]
  clear hW6
  obtain ⟨y1, y2, y3, y4, y5, y6, y7, y8⟩ := Hb.out _ Q6.out
  have RR1 := Lib.hid (RR.out W6 Q6.out)
  clear RR
  go_wp2_with fail
  refine RR1.out.mono ?_
  rintro e w7 ⟨x', q7, d7, v7, rfl, hnf7, hs7, hl7, hn7, k7⟩
  obtain rfl := nf_det hnf7 NX.out
  obtain ⟨p7, c7, rfl⟩ := hl7.form
  obtain ⟨W8, hW8⟩ : ∃ z, z = w7.alloc (.cells #[.string x'.1.nm, .slice q7 x'.1.args.length d7, .slice p7 x'.2.length c7] 27) := ⟨_, rfl⟩
  have J8 : Hid (Below w7.heap.size w7 W8) := Lib.hid (by rw [hW8]; exact below_alloc _ _)
  have H8 : Hid (Has W8 w7.heap.size #[.string x'.1.nm, .slice q7 x'.1.args.length d7, .slice p7 x'.2.length c7]) := Lib.hid (by rw [hW8]; exact Has.new _ _ _)
  have G8 := Lib.hid (next0 k7 J8.out)
  have H68 := Lib.hid (H6.out.step0 G8.out)
  have Q8 := Lib.hid (next0 Q6.out G8.out)
  have PE := Lib.hid (fun w' (g : Below W8.heap.size W8 w') => rule_eq x'.1 x'.1 x'.2 x'.2 true (by simp) w'.heap.size w' _ _ _ _ (Nat.le_refl _) (SX.out w' (next0 G8.out g)) ((hs7.frame (w' := w') fun b o hb => (g.cell (p := ⟨b, o, none⟩) (show b < W8.heap.size from Nat.lt_of_lt_of_le hb.2 J8.out.size)).trans (J8.out.cell (p := ⟨b, o, none⟩) hb.2)).weaken (ok' := (· < w'.heap.size)) fun b hb => Nat.lt_of_lt_of_le (Nat.lt_of_lt_of_le hb.2 J8.out.size) g.size) (LX.out w' (next0 G8.out g)) ((hl7.keep (w' := w') fun b o hb => (g.cell (p := ⟨b, o, none⟩) (show b < W8.heap.size from Nat.lt_of_lt_of_le hb.2 J8.out.size)).trans (J8.out.cell (p := ⟨b, o, none⟩) hb.2)).wide (ok' := (· < w'.heap.size)) fun b hb => Nat.lt_of_lt_of_le (Nat.lt_of_lt_of_le hb.2 J8.out.size) g.size))
  clear hnf7 hs7 hl7 hn7 k7 RR1 y1 y2 y3 y4 y5 y6 y7 y8 J8 SX LX NX
  go_upto_region 5 with fail
  rw [← hW8]
  clear hW8
  obtain ⟨y1, y2, y3, y4, y5, y6, y7, y8⟩ := Hb.out _ Q8.out
  have SA1 := Lib.hid (SA.out W8 Q8.out)
  clear SA
  go_wp2_with fail
  refine SA1.out.mono ?_
  rintro e w9 ⟨R1, c1, rfl, he1, k9⟩
  have E1 := Lib.hid he1
  have G9 := Lib.hid k9
  have Q9 := Lib.hid (next0 Q8.out k9)
  clear he1 k9 SA1 y1 y2 y3 y4 y5 y6 y7 y8
  obtain ⟨y1, y2, y3, y4, y5, y6, y7, y8⟩ := Hb.out _ Q9.out
  have SR1 := Lib.hid (SR.out w9 Q9.out)
  clear SR
  go_wp2_with fail
  refine SR1.out.mono ?_
  rintro e w10 ⟨R2, c2, rfl, he2, k10⟩
  obtain ⟨rfl, rfl⟩ := eq_det he2 E1.out
  have G10 := Lib.hid (next0 G9.out k10)
  have Q10 := Lib.hid (next0 Q9.out k10)
  have i2 : (R2 == R2) = true := by simp
  have i3 : (c2 == c2) = true := by simp
  obtain ⟨z1, z2, z3, z4, z5, z6, z7⟩ := UnpP.has3 (H68.out.step0 G10.out)
  obtain ⟨u1, u2, u3, u4, u5, u6, u7⟩ := UnpP.has3 (H8.out.step0 G10.out)
  have PE1 := Lib.hid (PE.out w10 G10.out)
  clear he2 E1 k10 SR1 y1 y2 y3 y4 y5 y6 y7 y8 PE
  generalize x'.1.nm = xn at *
  generalize x'.1.args.length = xa at *
  generalize x'.2.length = xl at *
  go_wp2_with fail
  refine PE1.out.mono ?_
  rintro e w11 ⟨rfl, g11⟩
  have Q11 := Lib.hid (next0 Q10.out g11.1)
  clear g11
  go_wp2_with fail
  refine (CA.out _ Q11.out).mono ?_
  rintro e w12 ⟨rfl, k12⟩
  have D := Lib.hid (next0 (QH.out _ Q11.out) k12)
  clear k12
  go_wp2_with fail
  go_ret
  exact ⟨rfl, D.out⟩
end NolR
end Go.Proofs.YtdkpflojdnkbnaaGreatDoor
