/- TermOrder's walk. -/
import Derived.Test.YteabkoibinbcdaaDoorTermW
import Derived.Test.YteabkoibinbcdaaDoorTermEq
import Derived.Deep.RegionHeld3
import Derived.Deep.RegionWith
import Derived.Deep.DeepCutAuto
namespace Go.Proofs.YteabkoibinbcdaaDoor
open Go Go.RowKit
namespace TermL2
open LexM TermM TermI Kit TermN TermS TermV TermP TermR TermL TermE TermF TermT TermH TermW TermEq
theorem b_more {W w : World} (h : Below W.heap.size W w) (o : Obj) : Below W.heap.size W (w.alloc o) := h.alloc h.size o
theorem wrap_neg {x : Int} (h1 : -1 ≤ x) (h2 : x ≤ 1) : IntKind.i64.wrap (-x) = -x := IntWalk.i64_in _ (by omega)
set_option maxRecDepth 100000 in
set_option maxHeartbeats 6400000 in
theorem order (a b c : Tm) (w : World) (sa sb sc : Value) (hw : Wd w) (hna : a.nm.size ≤ maxLen) (hnb : b.nm.size ≤ maxLen) (hnc : c.nm.size ≤ maxLen) (ha : SlIn (· < w.heap.size) w a.args sa) (hb : SlIn (· < w.heap.size) w b.args sb) (hc : SlIn (· < w.heap.size) w c.args sc) :
    Calls Tryd.prog 7 #[.agg #[.string a.nm, sa], .agg #[.string b.nm, sb], .agg #[.string c.nm, sc]] w fun e w' => e = .returned (.bool true) ∧ Below w.heap.size w w' := by
  obtain ⟨pa, ca, rfl⟩ := ha.form
  obtain ⟨pb, cb, rfl⟩ := hb.form
  obtain ⟨pc, cc, rfl⟩ := hc.form
  obtain ⟨W2, hW2⟩ : ∃ W2, W2 = ((w.alloc (.cells #[.string a.nm, .slice pa a.args.length ca] 28)).alloc (.cells #[.string b.nm, .slice pb b.args.length cb] 28)).alloc (.cells #[.string c.nm, .slice pc c.args.length cc] 28) := ⟨_, rfl⟩
  have G0 : Hid (Below w.heap.size w W2) := Lib.hid (by rw [hW2]; exact b_more (b_more (below_alloc w _) _) _)
  have ZW : Hid (w.heap.size ≤ W2.heap.size) := Lib.hid G0.out.size
  have H0 : Has W2 w.heap.size #[.string a.nm, .slice pa a.args.length ca] := by rw [hW2]; exact ((Has.new _ _ _).alloc _).alloc _
  have H1 : Has W2 (w.heap.size + 1) #[.string b.nm, .slice pb b.args.length cb] := by rw [hW2]; exact (Has.new1 _ _ _ _).alloc _
  have H2 : Has W2 (w.heap.size + 2) #[.string c.nm, .slice pc c.args.length cc] := by rw [hW2]; exact hasNew (by simp [World.size_alloc])
  have QW : ∀ w', Below W2.heap.size W2 w' → Below w.heap.size w w' := fun w' q => G0.out.trans (q.mono ZW.out)
  have CA := Lib.hid (fun w' (q : Below W2.heap.size W2 w') => awake_any w' (hw.below (QW w' q) hw.1))
  have KSa := Lib.hid (fun w' (q : Below W2.heap.size W2 w') => (small_any a w.heap.size w' _ (Nat.le_trans ZW.out q.size) (ha.deep (QW w' q) (Nat.le_refl _))).mono (fun e w'' (h : _ ∧ Gr w' w'') => (⟨h.1, h.2.1⟩ : _ ∧ Below w'.heap.size w' w'')))
  have KSb := Lib.hid (fun w' (q : Below W2.heap.size W2 w') => (small_any b w.heap.size w' _ (Nat.le_trans ZW.out q.size) (hb.deep (QW w' q) (Nat.le_refl _))).mono (fun e w'' (h : _ ∧ Gr w' w'') => (⟨h.1, h.2.1⟩ : _ ∧ Below w'.heap.size w' w'')))
  have KSc := Lib.hid (fun w' (q : Below W2.heap.size W2 w') => (small_any c w.heap.size w' _ (Nat.le_trans ZW.out q.size) (hc.deep (QW w' q) (Nat.le_refl _))).mono (fun e w'' (h : _ ∧ Gr w' w'') => (⟨h.1, h.2.1⟩ : _ ∧ Below w'.heap.size w' w'')))
  have Kab := Lib.hid (fun w' (q : Below W2.heap.size W2 w') => (cmp_any a w.heap.size w' _ b _ (Nat.le_trans ZW.out q.size) hna hnb (ha.deep (QW w' q) (Nat.le_refl _)) (hb.deep (QW w' q) (Nat.le_refl _))).mono (fun e w'' (h : _ ∧ Gr w' w'') => (⟨h.1, h.2.1⟩ : _ ∧ Below w'.heap.size w' w'')))
  have Kbc := Lib.hid (fun w' (q : Below W2.heap.size W2 w') => (cmp_any b w.heap.size w' _ c _ (Nat.le_trans ZW.out q.size) hnb hnc (hb.deep (QW w' q) (Nat.le_refl _)) (hc.deep (QW w' q) (Nat.le_refl _))).mono (fun e w'' (h : _ ∧ Gr w' w'') => (⟨h.1, h.2.1⟩ : _ ∧ Below w'.heap.size w' w'')))
  have Kac := Lib.hid (fun w' (q : Below W2.heap.size W2 w') => (cmp_any a w.heap.size w' _ c _ (Nat.le_trans ZW.out q.size) hna hnc (ha.deep (QW w' q) (Nat.le_refl _)) (hc.deep (QW w' q) (Nat.le_refl _))).mono (fun e w'' (h : _ ∧ Gr w' w'') => (⟨h.1, h.2.1⟩ : _ ∧ Below w'.heap.size w' w'')))
  have Kba := Lib.hid (fun w' (q : Below W2.heap.size W2 w') => (cmp_any b w.heap.size w' _ a _ (Nat.le_trans ZW.out q.size) hnb hna (hb.deep (QW w' q) (Nat.le_refl _)) (ha.deep (QW w' q) (Nat.le_refl _))).mono (fun e w'' (h : _ ∧ Gr w' w'') => (⟨h.1, h.2.1⟩ : _ ∧ Below w'.heap.size w' w'')))
  have Kaa := Lib.hid (fun w' (q : Below W2.heap.size W2 w') => (cmp_any a w.heap.size w' _ a _ (Nat.le_trans ZW.out q.size) hna hna (ha.deep (QW w' q) (Nat.le_refl _)) (ha.deep (QW w' q) (Nat.le_refl _))).mono (fun e w'' (h : _ ∧ Gr w' w'') => (⟨h.1, h.2.1⟩ : _ ∧ Below w'.heap.size w' w'')))
  have KE := Lib.hid (fun w' (q : Below W2.heap.size W2 w') => (TermEq.term_any a (cmpT a b == 0) w.heap.size w' _ b _ (by rw [beq_iff_eq]; exact cmp_zero a b) (Nat.le_trans ZW.out q.size) (ha.deep (QW w' q) (Nat.le_refl _)) (hb.deep (QW w' q) (Nat.le_refl _))).mono (fun e w'' (h : _ ∧ Gr w' w'') => (⟨h.1, h.2.1⟩ : _ ∧ Below w'.heap.size w' w'')))
  have Hb : Hid (∀ w', Below W2.heap.size W2 w' → w'.cell? ⟨w.heap.size, 0, none⟩ = some (.string a.nm) ∧ w'.cell? ⟨w.heap.size, 1, none⟩ = some (.slice pa a.args.length ca) ∧ w'.cell? ⟨w.heap.size + 1, 0, none⟩ = some (.string b.nm) ∧ w'.cell? ⟨w.heap.size + 1, 1, none⟩ = some (.slice pb b.args.length cb) ∧ w'.cell? ⟨w.heap.size + 2, 0, none⟩ = some (.string c.nm) ∧ w'.cell? ⟨w.heap.size + 2, 1, none⟩ = some (.slice pc c.args.length cc) ∧ Hid (Below W2.heap.size W2 w') ∧ W2.heap.size ≤ w'.heap.size) := Lib.hid (fun w' q => by
    obtain ⟨q1, q2, _⟩ := (H0.step0 q).two
    obtain ⟨q3, q4, _⟩ := (H1.step0 q).two
    obtain ⟨q5, q6, _⟩ := (H2.step0 q).two
    exact ⟨q1, q2, q3, q4, q5, q6, Lib.hid q, q.size⟩)
  have QH := Lib.hid QW
  have T1 := tri_cmp a b c
  have T2 := cmp_neg a b
  obtain ⟨rx1, rx2⟩ := cmp_rng a b
  obtain ⟨ry1, ry2⟩ := cmp_rng b c
  obtain ⟨rz1, rz2⟩ := cmp_rng a c
  have T3 : cmpT a a = 0 := (cmp_zero a a).2 rfl
  rw [T3] at Kaa
  generalize cmpT b a = x' at *
  generalize cmpT a b = x at *
  generalize cmpT b c = y at *
  generalize cmpT a c = z at *
  have i1 : decide (x < -1) = false := by simp; omega
  have i2 : decide (1 < x) = false := by simp; omega
  have i2' : decide (x > 1) = false := by simp; omega
  have i3 : IntKind.i64.wrap (-x') = x := by rw [T2, Int.neg_neg]; exact IntWalk.i64_in _ (by omega)
  have i4 : (x != x) = false := by simp
  obtain ⟨t1, _, _, t4, _, _⟩ := T1
  have U1 : Hid (x ≤ 0 → y ≤ 0 → z ≤ 0) := Lib.hid t1
  have U2 : Hid (0 ≤ x → 0 ≤ y → 0 ≤ z) := Lib.hid t4
  have U3 := Lib.hid (And.intro rx1 rx2)
  have U4 := Lib.hid (And.intro ry1 ry2)
  have U5 := Lib.hid (And.intro rz1 rz2)
  generalize decide (partsT 40 40 a ≤ 40) = Sa at *
  generalize decide (partsT 40 40 b ≤ 40) = Sb at *
  generalize decide (partsT 40 40 c ≤ 40) = Sc at *
  clear ha hb hc H0 H1 H2 QW hw T2 T3 t1 t4 rx1 rx2 ry1 ry2 rz1 rz2
  go_enter Tryd.func7, Tryd.ntmps7
  go_wp2_with fail
  rw [← hW2]
  clear hW2
  refine (KSa.out _ (Below.refl _ _)).mono ?_
  rintro e w3 ⟨rfl, k⟩
  obtain ⟨u1, u2, u3, u4, u5, u6, u7, u8⟩ := Hb.out _ k
  clear k
  cases Sa
  · go_wp2_with fail
    refine (CA.out _ u7.out).mono ?_
    rintro e w4 ⟨rfl, k⟩
    have D := Lib.hid (next0 (QH.out _ u7.out) k)
    clear k
    go_wp2_with fail
    go_ret
    exact ⟨rfl, D.out⟩
  go_wp2_with fail
  refine (KSb.out _ u7.out).mono ?_
  rintro e w4 ⟨rfl, k⟩
  obtain ⟨v1, v2, v3, v4, v5, v6, v7, v8⟩ := Hb.out _ (next0 u7.out k)
  clear k
  clear u1 u2 u3 u4 u5 u6 u7 u8
  cases Sb
  · go_wp2_with fail
    refine (CA.out _ v7.out).mono ?_
    rintro e w5 ⟨rfl, k⟩
    have D := Lib.hid (next0 (QH.out _ v7.out) k)
    clear k
    go_wp2_with fail
    go_ret
    exact ⟨rfl, D.out⟩
  go_wp2_with fail
  refine (KSc.out _ v7.out).mono ?_
  rintro e w5 ⟨rfl, k⟩
  obtain ⟨y1, y2, y3, y4, y5, y6, y7, y8⟩ := Hb.out _ (next0 v7.out k)
  clear k
  clear v1 v2 v3 v4 v5 v6 v7 v8
  cases Sc
  · go_wp2_with fail
    refine (CA.out _ y7.out).mono ?_
    rintro e w6 ⟨rfl, k⟩
    have D := Lib.hid (next0 (QH.out _ y7.out) k)
    clear k
    go_wp2_with fail
    go_ret
    exact ⟨rfl, D.out⟩
  clear KSa KSb KSc
  go_upto_region 3 with fail
  go_cut [7, 8, 9] (fun s7 s8 s9 wx => s7 = .int .i64 x ∧ s8 = .int .i64 y ∧ s9 = .int .i64 z ∧ Hid (Below W2.heap.size W2 wx))
  case first =>
    have hs0 := Hb.out _ (y7.out.drew)
    clear KE Kba Kaa CA QH
    go_region_held3 (fun w' => w'.cell? ⟨w.heap.size, 0, none⟩ = some (.string a.nm) ∧ w'.cell? ⟨w.heap.size, 1, none⟩ = some (.slice pa a.args.length ca) ∧ w'.cell? ⟨w.heap.size + 1, 0, none⟩ = some (.string b.nm) ∧ w'.cell? ⟨w.heap.size + 1, 1, none⟩ = some (.slice pb b.args.length cb) ∧ w'.cell? ⟨w.heap.size + 2, 0, none⟩ = some (.string c.nm) ∧ w'.cell? ⟨w.heap.size + 2, 1, none⟩ = some (.slice pc c.args.length cc) ∧ Hid (Below W2.heap.size W2 w') ∧ W2.heap.size ≤ w'.heap.size)
      (first | (with_reducible assumption) | (with_reducible exact ⟨‹_›, ‹_›, ‹_›, ‹_›, ‹_›, ‹_›, ‹_›, ‹_›⟩) | (with_reducible refine Hb.out _ ?_; repeat (first | (with_reducible exact Hid.out (by assumption)) | (with_reducible exact Below.refl _ _) | (with_reducible refine Below.drew ?_) | (with_reducible refine b_more ?_ _))))
      (first | (go_at_call 36; (try go_split_ands); (first | (with_reducible refine (Kab.out _ (by repeat (first | (with_reducible exact Hid.out (by assumption)) | (with_reducible exact Below.refl _ _) | (with_reducible refine Below.drew ?_) | (with_reducible refine b_more ?_ _)))).mono ?_) | (with_reducible refine (Kbc.out _ (by repeat (first | (with_reducible exact Hid.out (by assumption)) | (with_reducible exact Below.refl _ _) | (with_reducible refine Below.drew ?_) | (with_reducible refine b_more ?_ _)))).mono ?_) | (with_reducible refine (Kac.out _ (by repeat (first | (with_reducible exact Hid.out (by assumption)) | (with_reducible exact Below.refl _ _) | (with_reducible refine Below.drew ?_) | (with_reducible refine b_more ?_ _)))).mono ?_)); rintro e w' ⟨rfl, q0⟩; (have qg : Below W2.heap.size W2 w' := by (refine next0 ?_ q0; repeat (first | (with_reducible exact Hid.out (by assumption)) | (with_reducible exact Below.refl _ _) | (with_reducible refine Below.drew ?_) | (with_reducible refine b_more ?_ _)))); clear q0; obtain ⟨z1, z2, z3, z4, z5, z6, z7, z8⟩ := Hb.out _ qg))
    all_goals
      go_wp2_with fail
      go_meet
      exact ⟨rfl, rfl, rfl, Lib.hid qg⟩
  case rest =>
    obtain ⟨rfl, rfl, rfl, hq⟩ := hcut
    clear y1 y2 y3 y4 y5 y6 y7 y8 Kab Kbc Kac
    obtain ⟨y1, y2, y3, y4, y5, y6, y7, y8⟩ := Hb.out _ hq.out
    clear hq
    go_wp2_with fail
    refine (Kba.out _ y7.out).mono ?_
    rintro e w6 ⟨rfl, k⟩
    obtain ⟨v1, v2, v3, v4, v5, v6, v7, v8⟩ := Hb.out _ (next0 y7.out k)
    clear k y1 y2 y3 y4 y5 y6 y7 y8
    go_wp2_with fail
    refine (KE.out _ v7.out).mono ?_
    rintro e w7 ⟨rfl, k⟩
    obtain ⟨y1, y2, y3, y4, y5, y6, y7, y8⟩ := Hb.out _ (next0 v7.out k)
    clear k v1 v2 v3 v4 v5 v6 v7 v8 KE Kba
    go_upto_region 6 with fail
    go_cut [76] (fun s76 wx => s76 = .bool false ∧ wx = w7)
    case first =>
      clear CA Hb QH G0 y1 y2 y3 y4 y5 y6 y7 y8 Kaa i1 i2 i2' i3 i4
      obtain rfl | rfl | rfl : x = -1 ∨ x = 0 ∨ x = 1 := by have := U3.out; omega
      all_goals
        obtain rfl | rfl | rfl : y = -1 ∨ y = 0 ∨ y = 1 := by have := U4.out; omega
        all_goals
          obtain rfl | rfl | rfl : z = -1 ∨ z = 0 ∨ z = 1 := by have := U5.out; omega
          all_goals
            first
              | (exfalso; have h1 := U1.out; have h2 := U2.out; omega)
              | (go_wp2_with fail; go_meet; exact ⟨rfl, rfl⟩)
    case rest =>
      obtain ⟨rfl, rfl⟩ := hcut
      go_wp2_with fail
      refine (Kaa.out _ y7.out).mono ?_
      rintro e w8 ⟨rfl, k⟩
      obtain ⟨v1, v2, v3, v4, v5, v6, v7, v8⟩ := Hb.out _ (next0 y7.out k)
      clear k y1 y2 y3 y4 y5 y6 y7 y8 Kaa
      go_wp2_with fail
      refine (CA.out _ v7.out).mono ?_
      rintro e w9 ⟨rfl, k⟩
      have D := Lib.hid (next0 (QH.out _ v7.out) k)
      clear k
      go_wp2_with fail
      go_ret
      exact ⟨rfl, D.out⟩
end TermL2
end Go.Proofs.YteabkoibinbcdaaDoor
