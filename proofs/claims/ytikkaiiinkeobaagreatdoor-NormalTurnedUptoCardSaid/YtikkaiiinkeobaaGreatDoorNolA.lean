/- small of the laws; the walk of NormalOrder, of NormalCompares. Conditions: the heads' keys are short where they are small; term.Text's table is laid. -/
import Derived.Test.YtikkaiiinkeobaaGreatDoorNosY
import Derived.Test.YtikkaiiinkeobaaGreatDoorGAV
import Derived.Test.YtikkaiiinkeobaaGreatDoorGBF
import Derived.Deep.RegionHeld3
import Derived.Deep.DeepCutAuto
namespace Go.Proofs.YtikkaiiinkeobaaGreatDoor
open Go Go.RowKit
namespace NolA
open Kit LexM TermM TermI TermN TermU TermT UniK UniM UnpP LigM SmrA NorM NorH
theorem b_more {W w : World} (h : Below W.heap.size W w) (o : Obj) : Below W.heap.size W (w.alloc o) := h.alloc h.size o
/-- The rules of a row that was just made. -/
theorem rin_has {ok : Nat → Prop} {w : World} {g : Nat} {L : List (Rl × Value × Value)} (hH : Has w g (KR.flat L).toArray) (hin : ∀ x ∈ L, KR.inn ok w x) (hg : ok g) (hm : L.length ≤ 1000) : RIn ok w (L.map (·.1)) (.slice (some ⟨g, 0, none⟩) L.length L.length) := by
  refine ⟨L, rfl, some ⟨g, 0, none⟩, L.length, rfl, Nat.le_refl _, by unfold maxLen; omega, hin, fun _ => ⟨g, 0, rfl, hg, fun i x hx j u hu => ?_⟩⟩
  have f := flat_get (K := KR) L i x hx j u hu
  rw [show 0 + i * 3 + j = i * 3 + j by omega, hH.cell, List.getElem?_toArray]
  exact f
set_option maxRecDepth 100000 in
set_option maxHeartbeats 1600000 in
theorem small_any (N : Nat) (h4 : 4 ≤ N) (hN : (N + 3) * 4000000 ≤ 4611686018427387904) (l : List Rl) (w : World) (lv : Value) (hl : RIn (· < w.heap.size) w l lv) (hk : ∀ r ∈ l, sizeT r.1 ≤ 20 → klen r.1 ≤ N) :
    Calls Tryz.prog 10 #[lv] w (SmrQ l 12 w) := by
  have CS := Lib.hid (rules_any N h4 hN l 12 (by omega) w lv hl hk)
  unfold SmrQ at CS ⊢
  obtain ⟨p, c, rfl⟩ := hl.form
  clear hl hk
  go_enter Tryz.func10, Tryz.ntmps10
  go_wp2_with fail
  refine CS.out.mono ?_
  rintro e w2 ⟨b, rfl, hb, k⟩
  have HB := Lib.hid hb
  have K := Lib.hid k
  clear hb k CS
  go_wp2_with fail
  go_ret
  exact ⟨b, rfl, HB.out, K.out⟩
theorem cmp_r (x y : Rl) (B : Nat) (w : World) (sv sv' v v' : Value) (hB : B ≤ w.heap.size) (hx : SlIn (· < B) w x.1.args sv) (hy : SlIn (· < B) w y.1.args sv') (hn : x.1.nm.size ≤ maxLen) (hn' : y.1.nm.size ≤ maxLen) (h : LIn (· < B) w x.2 v) (h' : LIn (· < B) w y.2 v') :
    Calls Tryz.prog 12 #[.agg #[.string x.1.nm, sv, v], .agg #[.string y.1.nm, sv', v']] w fun e w' => e = .returned (.int .i64 (cmpR x y)) ∧ Gr w w' := NorA.cmpr_any x.1 y.1 x.2 y.2 B w sv sv' v v' hB hx hy hn hn' h h'
set_option maxRecDepth 100000 in
set_option maxHeartbeats 6400000 in
theorem order (N : Nat) (h4 : 4 ≤ N) (hN : (N + 3) * 4000000 ≤ 4611686018427387904) (a b c : Rl) (w : World) (sa ta sb tb sc tc : Value) (hw : Wd w) (hna : a.1.nm.size ≤ maxLen) (ha : SlIn (· < w.heap.size) w a.1.args sa) (hla : LIn (· < w.heap.size) w a.2 ta) (hka : sizeT a.1 ≤ 20 → klen a.1 ≤ N) (hnb : b.1.nm.size ≤ maxLen) (hb : SlIn (· < w.heap.size) w b.1.args sb) (hlb : LIn (· < w.heap.size) w b.2 tb) (hkb : sizeT b.1 ≤ 20 → klen b.1 ≤ N) (hnc : c.1.nm.size ≤ maxLen) (hc : SlIn (· < w.heap.size) w c.1.args sc) (hlc : LIn (· < w.heap.size) w c.2 tc) (hkc : sizeT c.1 ≤ 20 → klen c.1 ≤ N) :
    Calls Tryz.prog 8 #[.agg #[.string a.1.nm, sa, ta], .agg #[.string b.1.nm, sb, tb], .agg #[.string c.1.nm, sc, tc]] w fun e w' => e = .returned (.bool true) ∧ Below w.heap.size w w' := by
  obtain ⟨pa, ca, rfl⟩ := ha.form
  obtain ⟨qa, da, rfl⟩ := hla.form
  obtain ⟨pb, cb, rfl⟩ := hb.form
  obtain ⟨qb, db, rfl⟩ := hlb.form
  obtain ⟨pc, cc, rfl⟩ := hc.form
  obtain ⟨qc, dc, rfl⟩ := hlc.form
  obtain ⟨W2, hW2⟩ : ∃ W2, W2 = ((w.alloc (.cells #[.string a.1.nm, .slice pa a.1.args.length ca, .slice qa a.2.length da] 27)).alloc (.cells #[.string b.1.nm, .slice pb b.1.args.length cb, .slice qb b.2.length db] 27)).alloc (.cells #[.string c.1.nm, .slice pc c.1.args.length cc, .slice qc c.2.length dc] 27) := ⟨_, rfl⟩
  have G0 : Hid (Below w.heap.size w W2) := Lib.hid (by rw [hW2]; exact b_more (b_more (below_alloc w _) _) _)
  have ZW : Hid (w.heap.size ≤ W2.heap.size) := Lib.hid G0.out.size
  have Ha : Has W2 w.heap.size #[.string a.1.nm, .slice pa a.1.args.length ca, .slice qa a.2.length da] := by rw [hW2]; exact ((Has.new _ _ _).alloc _).alloc _
  have HbX : Has W2 (w.heap.size + 1) #[.string b.1.nm, .slice pb b.1.args.length cb, .slice qb b.2.length db] := by rw [hW2]; exact (Has.new1 _ _ _ _).alloc _
  have Hc : Has W2 (w.heap.size + 1 + 1) #[.string c.1.nm, .slice pc c.1.args.length cc, .slice qc c.2.length dc] := by rw [hW2]; exact Has.new2 _ _ _ _ _
  have QW : ∀ w', Below W2.heap.size W2 w' → Below w.heap.size w w' := fun w' q => G0.out.trans (q.mono ZW.out)
  have CA := Lib.hid (fun w' (q : Below W2.heap.size W2 w') => NosY.awake_any w' (hw.below (QW w' q) hw.1))
  obtain ⟨W4, hW4⟩ : ∃ W4, W4 = W2.alloc (.cells #[.string a.1.nm, .slice pa a.1.args.length ca, .slice qa a.2.length da, .string b.1.nm, .slice pb b.1.args.length cb, .slice qb b.2.length db, .string c.1.nm, .slice pc c.1.args.length cc, .slice qc c.2.length dc] 27) := ⟨_, rfl⟩
  have J4 : Hid (Below W2.heap.size W2 W4) := Lib.hid (by rw [hW4]; exact below_alloc _ _)
  have CS := Lib.hid (small_any N h4 hN [a, b, c] W4 _ (rin_has (ok := (· < W4.heap.size)) (g := W2.heap.size) (L := [(a, .slice pa a.1.args.length ca, .slice qa a.2.length da), (b, .slice pb b.1.args.length cb, .slice qb b.2.length db), (c, .slice pc c.1.args.length cc, .slice qc c.2.length dc)]) (by rw [hW4]; exact Has.new _ _ _) (fun x hx => by
    simp only [List.mem_cons, List.not_mem_nil, or_false] at hx
    have hz : w.heap.size ≤ W4.heap.size := (QW W4 J4.out).size
    rcases hx with rfl | rfl | rfl
    · exact ⟨(ha.deep (QW W4 J4.out) (Nat.le_refl _)).weaken fun b hb => Nat.lt_of_lt_of_le hb hz, hna, (hla.keep fun b o hb => (QW W4 J4.out).cell (p := ⟨b, o, none⟩) hb).wide fun b hb => Nat.lt_of_lt_of_le hb hz⟩
    · exact ⟨(hb.deep (QW W4 J4.out) (Nat.le_refl _)).weaken fun b hb => Nat.lt_of_lt_of_le hb hz, hnb, (hlb.keep fun b o hb => (QW W4 J4.out).cell (p := ⟨b, o, none⟩) hb).wide fun b hb => Nat.lt_of_lt_of_le hb hz⟩
    · exact ⟨(hc.deep (QW W4 J4.out) (Nat.le_refl _)).weaken fun b hb => Nat.lt_of_lt_of_le hb hz, hnc, (hlc.keep fun b o hb => (QW W4 J4.out).cell (p := ⟨b, o, none⟩) hb).wide fun b hb => Nat.lt_of_lt_of_le hb hz⟩
    ) (by rw [hW4]; simp) (by simp)) (fun x hx => by
    simp only [List.mem_cons, List.not_mem_nil, or_false] at hx
    rcases hx with rfl | rfl | rfl
    · exact hka
    · exact hkb
    · exact hkc
    ))
  unfold SmrQ at CS
  have Kab := Lib.hid (fun w' (q : Below W2.heap.size W2 w') => (cmp_r a b w.heap.size w' _ _ _ _ (Nat.le_trans ZW.out q.size) (ha.deep (QW w' q) (Nat.le_refl _)) (hb.deep (QW w' q) (Nat.le_refl _)) hna hnb (hla.keep fun b o hb => (QW w' q).cell (p := ⟨b, o, none⟩) hb) (hlb.keep fun b o hb => (QW w' q).cell (p := ⟨b, o, none⟩) hb)).mono (fun e w'' (h : _ ∧ Gr w' w'') => (⟨h.1, h.2.1⟩ : _ ∧ Below w'.heap.size w' w'')))
  have Kbc := Lib.hid (fun w' (q : Below W2.heap.size W2 w') => (cmp_r b c w.heap.size w' _ _ _ _ (Nat.le_trans ZW.out q.size) (hb.deep (QW w' q) (Nat.le_refl _)) (hc.deep (QW w' q) (Nat.le_refl _)) hnb hnc (hlb.keep fun b o hb => (QW w' q).cell (p := ⟨b, o, none⟩) hb) (hlc.keep fun b o hb => (QW w' q).cell (p := ⟨b, o, none⟩) hb)).mono (fun e w'' (h : _ ∧ Gr w' w'') => (⟨h.1, h.2.1⟩ : _ ∧ Below w'.heap.size w' w'')))
  have Kac := Lib.hid (fun w' (q : Below W2.heap.size W2 w') => (cmp_r a c w.heap.size w' _ _ _ _ (Nat.le_trans ZW.out q.size) (ha.deep (QW w' q) (Nat.le_refl _)) (hc.deep (QW w' q) (Nat.le_refl _)) hna hnc (hla.keep fun b o hb => (QW w' q).cell (p := ⟨b, o, none⟩) hb) (hlc.keep fun b o hb => (QW w' q).cell (p := ⟨b, o, none⟩) hb)).mono (fun e w'' (h : _ ∧ Gr w' w'') => (⟨h.1, h.2.1⟩ : _ ∧ Below w'.heap.size w' w'')))
  have Kba := Lib.hid (fun w' (q : Below W2.heap.size W2 w') => (cmp_r b a w.heap.size w' _ _ _ _ (Nat.le_trans ZW.out q.size) (hb.deep (QW w' q) (Nat.le_refl _)) (ha.deep (QW w' q) (Nat.le_refl _)) hnb hna (hlb.keep fun b o hb => (QW w' q).cell (p := ⟨b, o, none⟩) hb) (hla.keep fun b o hb => (QW w' q).cell (p := ⟨b, o, none⟩) hb)).mono (fun e w'' (h : _ ∧ Gr w' w'') => (⟨h.1, h.2.1⟩ : _ ∧ Below w'.heap.size w' w'')))
  have KE := Lib.hid (fun w' (q : Below W2.heap.size W2 w') => (rule_eq a.1 b.1 a.2 b.2 (cmpR a b == 0) (by rw [beq_iff_eq, r_zero, Prod.ext_iff]) w.heap.size w' _ _ _ _ (Nat.le_trans ZW.out q.size) (ha.deep (QW w' q) (Nat.le_refl _)) (hb.deep (QW w' q) (Nat.le_refl _)) (hla.keep fun b o hb => (QW w' q).cell (p := ⟨b, o, none⟩) hb) (hlb.keep fun b o hb => (QW w' q).cell (p := ⟨b, o, none⟩) hb)).mono (fun e w'' (h : _ ∧ Gr w' w'') => (⟨h.1, h.2.1⟩ : _ ∧ Below w'.heap.size w' w'')))
  have Hb : Hid (∀ w', Below W2.heap.size W2 w' → w'.cell? ⟨w.heap.size, 0, none⟩ = some (.string a.1.nm) ∧ w'.cell? ⟨w.heap.size, 1, none⟩ = some (.slice pa a.1.args.length ca) ∧ w'.cell? ⟨w.heap.size, 2, none⟩ = some (.slice qa a.2.length da) ∧ w'.cell? ⟨w.heap.size + 1, 0, none⟩ = some (.string b.1.nm) ∧ w'.cell? ⟨w.heap.size + 1, 1, none⟩ = some (.slice pb b.1.args.length cb) ∧ w'.cell? ⟨w.heap.size + 1, 2, none⟩ = some (.slice qb b.2.length db) ∧ w'.cell? ⟨w.heap.size + 1 + 1, 0, none⟩ = some (.string c.1.nm) ∧ w'.cell? ⟨w.heap.size + 1 + 1, 1, none⟩ = some (.slice pc c.1.args.length cc) ∧ w'.cell? ⟨w.heap.size + 1 + 1, 2, none⟩ = some (.slice qc c.2.length dc) ∧ Hid (Below W2.heap.size W2 w') ∧ W2.heap.size ≤ w'.heap.size) := Lib.hid (fun w' q => ⟨(Ha.step0 q).cell 0, (Ha.step0 q).cell 1, (Ha.step0 q).cell 2, (HbX.step0 q).cell 0, (HbX.step0 q).cell 1, (HbX.step0 q).cell 2, (Hc.step0 q).cell 0, (Hc.step0 q).cell 1, (Hc.step0 q).cell 2, Lib.hid q, q.size⟩)
  have QH := Lib.hid QW
  have T1 := tri_r a b c
  have T2 := r_neg a b
  obtain ⟨rx1, rx2⟩ := r_rng a b
  obtain ⟨ry1, ry2⟩ := r_rng b c
  obtain ⟨rz1, rz2⟩ := r_rng a c
  generalize cmpR b a = x' at *
  generalize cmpR a b = x at *
  generalize cmpR b c = y at *
  generalize cmpR a c = z at *
  have i1 : decide (x < -1) = false := by simp; omega
  have i2 : decide (1 < x) = false := by simp; omega
  have i2' : decide (x > 1) = false := by simp; omega
  have i3 : IntKind.i64.wrap (-x') = x := by rw [T2, Int.neg_neg]; exact IntWalk.i64_in _ (by omega)
  have i4 : (x != x) = false := by simp
  have U1 := Lib.hid T1
  have U3 := Lib.hid (And.intro rx1 rx2)
  have U4 := Lib.hid (And.intro ry1 ry2)
  have U5 := Lib.hid (And.intro rz1 rz2)
  clear ha hb hc hla hlb hlc Ha HbX Hc QW hw T1 T2 rx1 rx2 ry1 ry2 rz1 rz2 hka hkb hkc hna hnb hnc h4 hN
  generalize a.1.nm = na at *
  generalize a.1.args.length = la at *
  generalize a.2.length = ma at *
  generalize b.1.nm = nb at *
  generalize b.1.args.length = lb at *
  generalize b.2.length = mb at *
  generalize c.1.nm = nc at *
  generalize c.1.args.length = lc at *
  generalize c.2.length = mc at *
  obtain ⟨r1, r2, r3, r4, r5, r6, r7, r8, r9, r10, r11⟩ := Hb.out _ (Below.refl _ _)
  go_enter Tryz.func8, Tryz.ntmps8
  go_upto_region 1 with fail
  rw [← hW2]
  clear hW2
  go_wp2_with fail
  rw [← hW4]
  clear hW4
  refine CS.out.mono ?_
  rintro e w3 ⟨B, rfl, hB0, k⟩
  clear hB0
  clear r1 r2 r3 r4 r5 r6 r7 r8 r9 r10 r11 CS
  obtain ⟨y1, y2, y3, y4, y5, y6, y7, y8, y9, y10, y11⟩ := Hb.out _ (next0 J4.out k)
  clear k
  cases B
  · go_wp2_with fail
    refine (CA.out _ y10.out).mono ?_
    rintro e w4 ⟨rfl, k⟩
    have D := Lib.hid (next0 (QH.out _ y10.out) k)
    clear k
    go_wp2_with fail
    go_ret
    exact ⟨rfl, D.out⟩
  go_upto_region 3 with fail
  go_cut [7, 8, 9] (fun s7 s8 s9 wx => s7 = .int .i64 x ∧ s8 = .int .i64 y ∧ s9 = .int .i64 z ∧ Hid (Below W2.heap.size W2 wx))
  case first =>
    have hs0 := Hb.out _ (y10.out.drew)
    clear KE Kba CA QH
    go_region_held3 (fun w' => w'.cell? ⟨w.heap.size, 0, none⟩ = some (.string na) ∧ w'.cell? ⟨w.heap.size, 1, none⟩ = some (.slice pa la ca) ∧ w'.cell? ⟨w.heap.size, 2, none⟩ = some (.slice qa ma da) ∧ w'.cell? ⟨w.heap.size + 1, 0, none⟩ = some (.string nb) ∧ w'.cell? ⟨w.heap.size + 1, 1, none⟩ = some (.slice pb lb cb) ∧ w'.cell? ⟨w.heap.size + 1, 2, none⟩ = some (.slice qb mb db) ∧ w'.cell? ⟨w.heap.size + 1 + 1, 0, none⟩ = some (.string nc) ∧ w'.cell? ⟨w.heap.size + 1 + 1, 1, none⟩ = some (.slice pc lc cc) ∧ w'.cell? ⟨w.heap.size + 1 + 1, 2, none⟩ = some (.slice qc mc dc) ∧ Hid (Below W2.heap.size W2 w') ∧ W2.heap.size ≤ w'.heap.size)
      (first | (with_reducible assumption) | (with_reducible exact ⟨‹_›, ‹_›, ‹_›, ‹_›, ‹_›, ‹_›, ‹_›, ‹_›, ‹_›, ‹_›, ‹_›⟩) | (with_reducible refine Hb.out _ ?_; repeat (first | (with_reducible exact Hid.out (by assumption)) | (with_reducible exact Below.refl _ _) | (with_reducible refine Below.drew ?_) | (with_reducible refine b_more ?_ _))))
      (first | (go_at_call 12; (try go_split_ands); (first | (with_reducible refine (Kab.out _ (by repeat (first | (with_reducible exact Hid.out (by assumption)) | (with_reducible exact Below.refl _ _) | (with_reducible refine Below.drew ?_) | (with_reducible refine b_more ?_ _)))).mono ?_) | (with_reducible refine (Kbc.out _ (by repeat (first | (with_reducible exact Hid.out (by assumption)) | (with_reducible exact Below.refl _ _) | (with_reducible refine Below.drew ?_) | (with_reducible refine b_more ?_ _)))).mono ?_) | (with_reducible refine (Kac.out _ (by repeat (first | (with_reducible exact Hid.out (by assumption)) | (with_reducible exact Below.refl _ _) | (with_reducible refine Below.drew ?_) | (with_reducible refine b_more ?_ _)))).mono ?_)); rintro e w' ⟨rfl, q0⟩; (have qg : Below W2.heap.size W2 w' := by (refine next0 ?_ q0; repeat (first | (with_reducible exact Hid.out (by assumption)) | (with_reducible exact Below.refl _ _) | (with_reducible refine Below.drew ?_) | (with_reducible refine b_more ?_ _)))); clear q0; obtain ⟨z1, z2, z3, z4, z5, z6, z7, z8, z9, z10, z11⟩ := Hb.out _ qg))
    all_goals
      go_wp2_with fail
      go_meet
      exact ⟨rfl, rfl, rfl, Lib.hid qg⟩
  case rest =>
    obtain ⟨rfl, rfl, rfl, hq⟩ := hcut
    clear y1 y2 y3 y4 y5 y6 y7 y8 y9 y10 y11 Kab Kbc Kac
    obtain ⟨y1, y2, y3, y4, y5, y6, y7, y8, y9, y10, y11⟩ := Hb.out _ hq.out
    clear hq
    go_wp2_with fail
    refine (Kba.out _ y10.out).mono ?_
    rintro e w6 ⟨rfl, k⟩
    obtain ⟨v1, v2, v3, v4, v5, v6, v7, v8, v9, v10, v11⟩ := Hb.out _ (next0 y10.out k)
    clear k y1 y2 y3 y4 y5 y6 y7 y8 y9 y10 y11
    go_wp2_with fail
    refine (KE.out _ v10.out).mono ?_
    rintro e w7 ⟨rfl, k⟩
    obtain ⟨y1, y2, y3, y4, y5, y6, y7, y8, y9, y10, y11⟩ := Hb.out _ (next0 v10.out k)
    clear k v1 v2 v3 v4 v5 v6 v7 v8 v9 v10 v11 KE Kba
    go_upto_region 6 with fail
    go_cut [75] (fun s75 wx => s75 = .bool false ∧ wx = w7)
    case first =>
      clear CA Hb QH G0 y1 y2 y3 y4 y5 y6 y7 y8 y9 y10 y11 i1 i2 i2' i3 i4
      have HM1 : x ≤ 0 → y ≤ 0 → (z != min x y) = false := fun h1 h2 => by
        have h := U1.out; have a1 := U3.out; have a2 := U4.out; have a3 := U5.out
        unfold Tri at h
        rw [bne_eq_false_iff_eq]
        omega
      have HM2 : 0 ≤ x → 0 ≤ y → (z != max x y) = false := fun h1 h2 => by
        have h := U1.out; have a1 := U3.out; have a2 := U4.out; have a3 := U5.out
        unfold Tri at h
        rw [bne_eq_false_iff_eq]
        omega
      have HM1 := Lib.hid HM1
      have HM2 := Lib.hid HM2
      by_cases hx : x ≤ 0 <;> by_cases hy : y ≤ 0 <;> by_cases hx' : 0 ≤ x <;> by_cases hy' : 0 ≤ y
      all_goals
        first
          | (exfalso; omega)
          | (have m1 := HM1.out hx hy; have m2 := HM2.out hx' hy'; clear HM1 HM2 U1 U3 U4 U5; go_wp2_with fail; go_meet; exact ⟨rfl, rfl⟩)
          | (have m1 := HM1.out hx hy; clear HM1 HM2 U1 U3 U4 U5; go_wp2_with fail; go_meet; exact ⟨rfl, rfl⟩)
          | (have m2 := HM2.out hx' hy'; clear HM1 HM2 U1 U3 U4 U5; go_wp2_with fail; go_meet; exact ⟨rfl, rfl⟩)
          | (clear HM1 HM2 U1 U3 U4 U5; go_wp2_with fail; go_meet; exact ⟨rfl, rfl⟩)
    case rest =>
      obtain ⟨rfl, rfl⟩ := hcut
      go_wp2_with fail
      refine (CA.out _ y10.out).mono ?_
      rintro e w9 ⟨rfl, k⟩
      have D := Lib.hid (next0 (QH.out _ y10.out) k)
      clear k
      go_wp2_with fail
      go_ret
      exact ⟨rfl, D.out⟩
end NolA
end Go.Proofs.YtikkaiiinkeobaaGreatDoor
