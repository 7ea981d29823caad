/- TermLeaves' walk. -/
import Derived.Test.YtgfdplmilichiaaDoorTermW
import Derived.Test.YtgfdplmilichiaaDoorTermCo2
namespace Go.Proofs.YtgfdplmilichiaaDoor
open Go Go.RowKit
namespace TermL5
open LexM TermM TermI Kit TermN TermS TermP TermQ TermR TermL TermE TermF TermT TermG TermH TermW TermLs TermVr TermCo TermCo2
theorem few_size {l : List Tm} (h : (decide (l.length ≤ 40) && l.all fun t => decide (partsT 40 40 t ≤ 40)) = true) : sizeL l ≤ 1600 := by
  rw [Bool.and_eq_true, List.all_eq_true] at h
  have h1 := of_decide_eq_true h.1
  have h2 : ∀ t ∈ l, sizeT t ≤ 40 := fun t ht => by
    have h3 := of_decide_eq_true (h.2 t ht)
    have h4 := (parts_size 40 40 t h3).1
    omega
  have key : ∀ l : List Tm, (∀ t ∈ l, sizeT t ≤ 40) → sizeL l ≤ 40 * l.length := by
    intro l
    induction l with
    | nil => intro _; simp [sizeL]
    | cons a r ih =>
      intro h
      have e1 := h a (by simp)
      have e2 := ih (fun t ht => h t (by simp [ht]))
      simp only [sizeL, List.length_cons]
      omega
  have := key l h2
  omega
set_option maxRecDepth 100000 in
set_option maxHeartbeats 6400000 in
theorem leaves (l : List Tm) (w : World) (v : Value) (hw : Wd w) (h : SlIn (· < w.heap.size) w l v) :
    Calls Tryd.prog 5 #[v] w fun e w' => e = .returned (.bool true) ∧ Below w.heap.size w w' := by
  have CA := Lib.hid (fun w' (q : Below w.heap.size w w') => awake_any w' (hw.below q hw.1))
  have F1 := Lib.hid ((few_any l w.heap.size w v (Nat.le_refl _) h).mono fun _ _ ⟨a, b⟩ => And.intro a b.1)
  have KV := Lib.hid (fun (hz : sizeL l ≤ 1000000) w' (q : Below w.heap.size w w') => vars_any l w.heap.size w' v q.size (h.deep q (Nat.le_refl _)) hz)
  have KR := Lib.hid (fun (hz : sizeL l ≤ 1000000) w' (q : Below w.heap.size w w') => rvars_any l w.heap.size w' v q.size (h.deep q (Nat.le_refl _)) hz)
  have KC := Lib.hid (fun (hz : sizeL l ≤ 1000000) w' (q : Below w.heap.size w w') => cons_any l w.heap.size w' v q.size (h.deep q (Nat.le_refl _)) hz)
  have KD := Lib.hid (fun (hz : sizeL l ≤ 1000000) w' (q : Below w.heap.size w w') => rcons_any l w.heap.size w' v q.size (h.deep q (Nat.le_refl _)) hz)
  have SZ : Hid ((decide (l.length ≤ 40) && l.all fun t => decide (partsT 40 40 t ≤ 40)) = true → sizeL l ≤ 1600) := Lib.hid few_size
  have VL : Hid ((varsOf (leavesL l)).length ≤ sizeL l) := Lib.hid (Nat.le_trans (varsOf_len _) (leavesL_len l))
  have TL : Hid ((conT (leavesL l)).length ≤ sizeL l) := Lib.hid (by
    have h1 := conP_len (leavesL l)
    have h2 := leavesL_len l
    unfold conT
    rw [List.length_map]
    omega)
  obtain ⟨p, c, rfl⟩ := h.form
  generalize (decide (l.length ≤ 40) && l.all fun t => decide (partsT 40 40 t ≤ 40)) = Sa at *
  generalize varsOf (leavesL l) = ys at *
  generalize conT (leavesL l) = T at *
  generalize l.length = m at *
  generalize sizeL l = Z at *
  clear h hw
  go_enter Tryd.func5, Tryd.ntmps5
  go_wp2_with fail
  refine F1.out.mono ?_
  rintro e w1 ⟨rfl, k⟩
  have G1 := Lib.hid k
  clear k F1
  cases Sa
  · go_wp2_with fail
    refine (CA.out _ G1.out).mono ?_
    rintro e w4 ⟨rfl, k⟩
    have D := Lib.hid (next0 G1.out k)
    clear k
    go_wp2_with fail
    go_ret
    exact ⟨rfl, D.out⟩
  have hZ : Z ≤ 1600 := SZ.out rfl
  have KV2 := Lib.hid (KV.out (by omega))
  have KR2 := Lib.hid (KR.out (by omega))
  have KC2 := Lib.hid (KC.out (by omega))
  have KD2 := Lib.hid (KD.out (by omega))
  clear KV KR KC KD SZ
  go_wp2_with fail
  refine (KV2.out _ G1.out).mono ?_
  rintro e w2 ⟨v2, b2, rfl, ho2, hb2, hd2⟩
  have G2 := Lib.hid (next0 G1.out hd2)
  have O2 := Lib.hid ho2
  obtain ⟨a2, c2, rfl⟩ := row_form ho2
  clear ho2 hb2 hd2
  go_wp2_with fail
  refine (KR2.out _ G2.out).mono ?_
  rintro e w3 ⟨v3, b3, rfl, ho3, hb3, hd3⟩
  have G3 := Lib.hid (next0 G2.out hd3)
  have KS := Lib.hid (strings_any ys ys w3 b2 b3 _ _ true (by simp) (own_below O2.out hd3) ho3 (by have := VL.out; omega) (by have := VL.out; omega))
  obtain ⟨a3, c3, rfl⟩ := row_form ho3
  clear ho3 hb3 hd3
  go_wp2_with fail
  refine KS.out.mono ?_
  rintro e w4 ⟨rfl, k⟩
  have G4 := Lib.hid (next0 G3.out k)
  clear k KS O2
  go_wp2_with fail
  refine (KC2.out _ G4.out).mono ?_
  rintro e w5 ⟨l5, hA5, hM5, hl5, v5, b5, rfl, ho5, hb5, hd5⟩
  have G5 := Lib.hid (next0 G4.out hd5)
  have O5 := Lib.hid ho5
  obtain ⟨a5, c5, rfl⟩ := row_form ho5
  have HA5 := Lib.hid hA5
  have HM5 := Lib.hid hM5
  have HL5 := Lib.hid hl5
  clear ho5 hb5 hd5 hA5 hM5 hl5
  generalize hn5 : (l5.map Tm.nm).length = n5 at *
  have HN5 := Lib.hid hn5
  clear hn5
  go_wp2_with fail
  refine (KD2.out _ G5.out).mono ?_
  rintro e w6 ⟨l6, hA6, hM6, hl6, v6, b6, rfl, ho6, hb6, hd6⟩
  have G6 := Lib.hid (next0 G5.out hd6)
  obtain rfl : l5 = l6 := asc_uniq _ _ HA5.out hA6 (fun t => (HM5.out t).trans (hM6 t).symm)
  have hlen : (l5.map Tm.nm).length ≤ 3000000 := by rw [List.length_map]; have := HL5.out; have := TL.out; omega
  have KS := Lib.hid (strings_any (l5.map Tm.nm) (l5.map Tm.nm) w6 b5 b6 _ _ true (by simp) (by rw [HN5.out]; exact own_below O5.out hd6) ho6 hlen hlen)
  rw [HN5.out] at ho6
  obtain ⟨a6, c6, rfl⟩ := row_form ho6
  clear ho6 hb6 hd6 hA6 hM6 hl6 hlen
  go_wp2_with fail
  refine KS.out.mono ?_
  rintro e w7 ⟨rfl, k⟩
  have G7 := Lib.hid (next0 G6.out k)
  clear k KS
  go_wp2_with fail
  refine (CA.out _ G7.out).mono ?_
  rintro e w8 ⟨rfl, k⟩
  have D := Lib.hid (next0 G7.out k)
  clear k
  go_wp2_with fail
  go_ret
  exact ⟨rfl, D.out⟩
end TermL5
end Go.Proofs.YtgfdplmilichiaaDoor
