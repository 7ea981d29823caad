/- The walk of NormalCompares. Conditions: the heads' keys are short where they are small; term.Text's table is laid. -/
import Derived.Test.YtikkaiiinkeobaaGreatDoorNolA
import Derived.Test.YtikkaiiinkeobaaGreatDoorGBF
namespace Go.Proofs.YtikkaiiinkeobaaGreatDoor
open Go Go.RowKit
namespace NolB
open Kit LexM TermM TermI TermN TermU TermT UniK UniM UnpP LigM SmrA NorM NorH NolA
theorem rcmp_r (x y : Rl) (B : Nat) (w : World) (sv sv' v v' : Value) (hB : B ≤ w.heap.size) (hx : SlIn (· < B) w x.1.args sv) (hy : SlIn (· < B) w y.1.args sv') (hn : x.1.nm.size ≤ maxLen) (hn' : y.1.nm.size ≤ maxLen) (h : LIn (· < B) w x.2 v) (h' : LIn (· < B) w y.2 v') :
    Calls Tryz.prog 13 #[.agg #[.string x.1.nm, sv, v], .agg #[.string y.1.nm, sv', v']] w fun e w' => e = .returned (.int .i64 (cmpR x y)) ∧ Gr w w' := NorG.rcmpr_any x.1 y.1 x.2 y.2 B w sv sv' v v' hB hx hy hn hn' h h'
set_option maxRecDepth 100000 in
set_option maxHeartbeats 6400000 in
theorem compares (N : Nat) (h4 : 4 ≤ N) (hN : (N + 3) * 4000000 ≤ 4611686018427387904) (a b : Rl) (w : World) (sa ta sb tb : Value) (hw : Wd w) (hna : a.1.nm.size ≤ maxLen) (ha : SlIn (· < w.heap.size) w a.1.args sa) (hla : LIn (· < w.heap.size) w a.2 ta) (hka : sizeT a.1 ≤ 20 → klen a.1 ≤ N) (hnb : b.1.nm.size ≤ maxLen) (hb : SlIn (· < w.heap.size) w b.1.args sb) (hlb : LIn (· < w.heap.size) w b.2 tb) (hkb : sizeT b.1 ≤ 20 → klen b.1 ≤ N) :
    Calls Tryz.prog 3 #[.agg #[.string a.1.nm, sa, ta], .agg #[.string b.1.nm, sb, tb]] w fun e w' => e = .returned (.bool true) ∧ Below w.heap.size w w' := by
  obtain ⟨pa, ca, rfl⟩ := ha.form
  obtain ⟨qa, da, rfl⟩ := hla.form
  obtain ⟨pb, cb, rfl⟩ := hb.form
  obtain ⟨qb, db, rfl⟩ := hlb.form
  obtain ⟨W2, hW2⟩ : ∃ W2, W2 = (w.alloc (.cells #[.string a.1.nm, .slice pa a.1.args.length ca, .slice qa a.2.length da] 27)).alloc (.cells #[.string b.1.nm, .slice pb b.1.args.length cb, .slice qb b.2.length db] 27) := ⟨_, rfl⟩
  have G0 : Hid (Below w.heap.size w W2) := Lib.hid (by rw [hW2]; exact b_more (below_alloc w _) _)
  have ZW : Hid (w.heap.size ≤ W2.heap.size) := Lib.hid G0.out.size
  have Ha : Has W2 w.heap.size #[.string a.1.nm, .slice pa a.1.args.length ca, .slice qa a.2.length da] := by rw [hW2]; exact (Has.new _ _ _).alloc _
  have HbX : Has W2 (w.heap.size + 1) #[.string b.1.nm, .slice pb b.1.args.length cb, .slice qb b.2.length db] := by rw [hW2]; exact Has.new1 _ _ _ _
  have QW : ∀ w', Below W2.heap.size W2 w' → Below w.heap.size w w' := fun w' q => G0.out.trans (q.mono ZW.out)
  have CA := Lib.hid (fun w' (q : Below W2.heap.size W2 w') => NosY.awake_any w' (hw.below (QW w' q) hw.1))
  obtain ⟨W4, hW4⟩ : ∃ W4, W4 = W2.alloc (.cells #[.string a.1.nm, .slice pa a.1.args.length ca, .slice qa a.2.length da, .string b.1.nm, .slice pb b.1.args.length cb, .slice qb b.2.length db] 27) := ⟨_, rfl⟩
  have J4 : Hid (Below W2.heap.size W2 W4) := Lib.hid (by rw [hW4]; exact below_alloc _ _)
  have CS := Lib.hid (small_any N h4 hN [a, b] W4 _ (rin_has (ok := (· < W4.heap.size)) (g := W2.heap.size) (L := [(a, .slice pa a.1.args.length ca, .slice qa a.2.length da), (b, .slice pb b.1.args.length cb, .slice qb b.2.length db)]) (by rw [hW4]; exact Has.new _ _ _) (fun x hx => by
    simp only [List.mem_cons, List.not_mem_nil, or_false] at hx
    have hz : w.heap.size ≤ W4.heap.size := (QW W4 J4.out).size
    rcases hx with rfl | rfl
    · exact ⟨(ha.deep (QW W4 J4.out) (Nat.le_refl _)).weaken fun b hb => Nat.lt_of_lt_of_le hb hz, hna, (hla.keep fun b o hb => (QW W4 J4.out).cell (p := ⟨b, o, none⟩) hb).wide fun b hb => Nat.lt_of_lt_of_le hb hz⟩
    · exact ⟨(hb.deep (QW W4 J4.out) (Nat.le_refl _)).weaken fun b hb => Nat.lt_of_lt_of_le hb hz, hnb, (hlb.keep fun b o hb => (QW W4 J4.out).cell (p := ⟨b, o, none⟩) hb).wide fun b hb => Nat.lt_of_lt_of_le hb hz⟩
    ) (by rw [hW4]; simp) (by simp)) (fun x hx => by
    simp only [List.mem_cons, List.not_mem_nil, or_false] at hx
    rcases hx with rfl | rfl
    · exact hka
    · exact hkb
    ))
  unfold SmrQ at CS
  have Kab := Lib.hid (fun w' (q : Below W2.heap.size W2 w') => (cmp_r a b w.heap.size w' _ _ _ _ (Nat.le_trans ZW.out q.size) (ha.deep (QW w' q) (Nat.le_refl _)) (hb.deep (QW w' q) (Nat.le_refl _)) hna hnb (hla.keep fun b o hb => (QW w' q).cell (p := ⟨b, o, none⟩) hb) (hlb.keep fun b o hb => (QW w' q).cell (p := ⟨b, o, none⟩) hb)).mono (fun e w'' (h : _ ∧ Gr w' w'') => (⟨h.1, h.2.1⟩ : _ ∧ Below w'.heap.size w' w'')))
  have Rab := Lib.hid (fun w' (q : Below W2.heap.size W2 w') => (rcmp_r a b w.heap.size w' _ _ _ _ (Nat.le_trans ZW.out q.size) (ha.deep (QW w' q) (Nat.le_refl _)) (hb.deep (QW w' q) (Nat.le_refl _)) hna hnb (hla.keep fun b o hb => (QW w' q).cell (p := ⟨b, o, none⟩) hb) (hlb.keep fun b o hb => (QW w' q).cell (p := ⟨b, o, none⟩) hb)).mono (fun e w'' (h : _ ∧ Gr w' w'') => (⟨h.1, h.2.1⟩ : _ ∧ Below w'.heap.size w' w'')))
  have Hb : Hid (∀ w', Below W2.heap.size W2 w' → w'.cell? ⟨w.heap.size, 0, none⟩ = some (.string a.1.nm) ∧ w'.cell? ⟨w.heap.size, 1, none⟩ = some (.slice pa a.1.args.length ca) ∧ w'.cell? ⟨w.heap.size, 2, none⟩ = some (.slice qa a.2.length da) ∧ w'.cell? ⟨w.heap.size + 1, 0, none⟩ = some (.string b.1.nm) ∧ w'.cell? ⟨w.heap.size + 1, 1, none⟩ = some (.slice pb b.1.args.length cb) ∧ w'.cell? ⟨w.heap.size + 1, 2, none⟩ = some (.slice qb b.2.length db) ∧ Hid (Below W2.heap.size W2 w') ∧ W2.heap.size ≤ w'.heap.size) := Lib.hid (fun w' q => ⟨(Ha.step0 q).cell 0, (Ha.step0 q).cell 1, (Ha.step0 q).cell 2, (HbX.step0 q).cell 0, (HbX.step0 q).cell 1, (HbX.step0 q).cell 2, Lib.hid q, q.size⟩)
  have QH := Lib.hid QW
  generalize cmpR a b = x at *
  have i4 : (x == x) = true := by simp
  clear ha hb hla hlb Ha HbX QW hw hka hkb hna hnb h4 hN
  generalize a.1.nm = na at *
  generalize a.1.args.length = la at *
  generalize a.2.length = ma at *
  generalize b.1.nm = nb at *
  generalize b.1.args.length = lb at *
  generalize b.2.length = mb at *
  obtain ⟨r1, r2, r3, r4, r5, r6, r7, r8⟩ := Hb.out _ (Below.refl _ _)
  go_enter Tryz.func3, Tryz.ntmps3
  go_upto_region 1 with fail
  rw [← hW2]
  clear hW2
  go_wp2_with fail
  rw [← hW4]
  clear hW4
  refine CS.out.mono ?_
  rintro e w3 ⟨B, rfl, hB0, k⟩
  clear hB0
  clear r1 r2 r3 r4 r5 r6 r7 r8 CS
  obtain ⟨y1, y2, y3, y4, y5, y6, y7, y8⟩ := Hb.out _ (next0 J4.out k)
  clear k
  cases B
  · go_wp2_with fail
    refine (CA.out _ y7.out).mono ?_
    rintro e w4 ⟨rfl, k⟩
    have D := Lib.hid (next0 (QH.out _ y7.out) k)
    clear k
    go_wp2_with fail
    go_ret
    exact ⟨rfl, D.out⟩
  go_upto_region 3 with fail
  go_cut [4] (fun s4 wx => s4 = .bool true ∧ Hid (Below W2.heap.size W2 wx))
  case first =>
    have hs0 := Hb.out _ (y7.out.drew)
    clear QH
    go_region_held3 (fun w' => w'.cell? ⟨w.heap.size, 0, none⟩ = some (.string na) ∧ w'.cell? ⟨w.heap.size, 1, none⟩ = some (.slice pa la ca) ∧ w'.cell? ⟨w.heap.size, 2, none⟩ = some (.slice qa ma da) ∧ w'.cell? ⟨w.heap.size + 1, 0, none⟩ = some (.string nb) ∧ w'.cell? ⟨w.heap.size + 1, 1, none⟩ = some (.slice pb lb cb) ∧ w'.cell? ⟨w.heap.size + 1, 2, none⟩ = some (.slice qb mb db) ∧ Hid (Below W2.heap.size W2 w') ∧ W2.heap.size ≤ w'.heap.size)
      (first | (with_reducible assumption) | (with_reducible exact ⟨‹_›, ‹_›, ‹_›, ‹_›, ‹_›, ‹_›, ‹_›, ‹_›⟩) | (with_reducible refine Hb.out _ ?_; repeat (first | (with_reducible exact Hid.out (by assumption)) | (with_reducible exact Below.refl _ _) | (with_reducible refine Below.drew ?_) | (with_reducible refine b_more ?_ _))))
      (first | (go_at_call 12; (try go_split_ands); (with_reducible refine (Kab.out _ (by repeat (first | (with_reducible exact Hid.out (by assumption)) | (with_reducible exact Below.refl _ _) | (with_reducible refine Below.drew ?_) | (with_reducible refine b_more ?_ _)))).mono ?_); rintro e w' ⟨rfl, q0⟩; (have qg : Below W2.heap.size W2 w' := by (refine next0 ?_ q0; repeat (first | (with_reducible exact Hid.out (by assumption)) | (with_reducible exact Below.refl _ _) | (with_reducible refine Below.drew ?_) | (with_reducible refine b_more ?_ _)))); clear q0; obtain ⟨z1, z2, z3, z4, z5, z6, z7, z8⟩ := Hb.out _ qg) | (go_at_call 13; (try go_split_ands); (with_reducible refine (Rab.out _ (by repeat (first | (with_reducible exact Hid.out (by assumption)) | (with_reducible exact Below.refl _ _) | (with_reducible refine Below.drew ?_) | (with_reducible refine b_more ?_ _)))).mono ?_); rintro e w' ⟨rfl, q0⟩; (have qr : Below W2.heap.size W2 w' := by (refine next0 ?_ q0; repeat (first | (with_reducible exact Hid.out (by assumption)) | (with_reducible exact Below.refl _ _) | (with_reducible refine Below.drew ?_) | (with_reducible refine b_more ?_ _)))); clear q0; obtain ⟨t1, t2, t3, t4, t5, t6, t7, t8⟩ := Hb.out _ qr) | (go_at_call 11; (try go_split_ands); (with_reducible refine (CA.out _ (by repeat (first | (with_reducible exact Hid.out (by assumption)) | (with_reducible exact Below.refl _ _) | (with_reducible refine Below.drew ?_) | (with_reducible refine b_more ?_ _)))).mono ?_); rintro e w' ⟨rfl, q0⟩; (have qa : Below W2.heap.size W2 w' := by (refine next0 ?_ q0; repeat (first | (with_reducible exact Hid.out (by assumption)) | (with_reducible exact Below.refl _ _) | (with_reducible refine Below.drew ?_) | (with_reducible refine b_more ?_ _)))); clear q0; obtain ⟨s1, s2, s3, s4, s5, s6, s7, s8⟩ := Hb.out _ qa))
    all_goals
      go_wp2_with fail
      go_meet
      exact ⟨rfl, Lib.hid qa⟩
  case rest =>
    obtain ⟨rfl, hq⟩ := hcut
    have D := Lib.hid (QH.out _ hq.out)
    go_wp2_with fail
    go_ret
    exact ⟨rfl, D.out⟩
end NolB
end Go.Proofs.YtikkaiiinkeobaaGreatDoor
