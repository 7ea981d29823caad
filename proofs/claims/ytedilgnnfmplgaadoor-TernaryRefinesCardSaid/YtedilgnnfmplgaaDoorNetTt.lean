/- ternary's connectives, the package's and the reference's. Condition: the package's three tables hold what its text says. -/
import Derived.Test.YtedilgnnfmplgaaDoorNetTn
import Derived.Test.YtedilgnnfmplgaaDoorGAA
import Derived.BigQuiet
namespace Go.Proofs.YtedilgnnfmplgaaDoor
open Go Go.RowKit
namespace NetTt
open Kit NetTn
/-- The three tables. -/
structure Tb (w : World) : Prop where
  cc : ∀ i j : Nat, i < 3 → j < 3 → w.cell? ⟨0, i * 3 + j, none⟩ = some (.int .i64 (tand i j))
  dd : ∀ i j : Nat, i < 3 → j < 3 → w.cell? ⟨1, i * 3 + j, none⟩ = some (.int .i64 (tor i j))
  nn : ∀ i : Nat, i < 3 → w.cell? ⟨2, i, none⟩ = some (.int .i64 (tnot i))
theorem Tb.below {w w' : World} (h : Tb w) (q : Below w.heap.size w w') : Tb w' := by
  have c0 := World.block_lt_of_cell? w _ (h.cc 0 0 (by omega) (by omega))
  have d0 := World.block_lt_of_cell? w _ (h.dd 0 0 (by omega) (by omega))
  have n0 := World.block_lt_of_cell? w _ (h.nn 0 (by omega))
  exact ⟨fun i j hi hj => (q.cell (p := ⟨_, i * 3 + j, none⟩) c0).trans (h.cc i j hi hj), fun i j hi hj => (q.cell (p := ⟨_, i * 3 + j, none⟩) d0).trans (h.dd i j hi hj), fun i hi => (q.cell (p := ⟨_, i, none⟩) n0).trans (h.nn i hi)⟩
theorem value_any (a : Int) (w : World) : Calls Tryd.prog 30 #[.int .i64 a] w fun e w' => e = .returned (.int .i64 (tv a)) ∧ w = w' := by
  rcases tv_cases a with ⟨rfl, e⟩ | ⟨rfl, e⟩ | ⟨h, h1, e⟩
  · rw [e]
    clear e
    go_enter Tryd.func30, Tryd.ntmps30
    go_wp2_with fail
    go_ret
    exact ⟨rfl, rfl⟩
  · rw [e]
    clear e
    go_enter Tryd.func30, Tryd.ntmps30
    go_wp2_with fail
    go_ret
    exact ⟨rfl, rfl⟩
  · rw [e]
    clear e
    have i0 : (a == 0) = false := by simp [h]
    have i1 : (a == 1) = false := by simp [h1]
    clear h h1
    go_enter Tryd.func30, Tryd.ntmps30
    go_wp2_with fail
    go_ret
    exact ⟨rfl, rfl⟩
/-- A number that counts as x. -/
theorem value_is {a x : Int} (h : tv a = x) (w : World) : Calls Tryd.prog 30 #[.int .i64 a] w fun e w' => e = .returned (.int .i64 x) ∧ w = w' := h ▸ value_any a w
theorem tri_nat (a : Int) : ∃ i : Nat, i < 3 ∧ tv a = (i : Int) := by
  rcases tv_tri a with e | e | e
  · exact ⟨0, by omega, e⟩
  · exact ⟨1, by omega, e⟩
  · exact ⟨2, by omega, e⟩
theorem not_any (a : Int) (w : World) (ht : Tb w) : Calls Tryd.prog 14 #[.int .i64 a] w fun e w' => e = .returned (.int .i64 (tnot a)) ∧ Below w.heap.size w w' := by
  obtain ⟨i, hi, e⟩ := tri_nat a
  have V := Lib.hid (fun w' => value_is e w')
  have hc := ht.nn i hi
  rw [← e, tnot_tv] at hc
  generalize tnot a = R at *
  have i0 : (0 : Int) ≤ (i : Int) := by omega
  have i3 : (i : Int) < 3 := by omega
  clear e ht
  go_enter Tryd.func14, Tryd.ntmps14
  go_wp2_with fail
  refine (V.out w).mono ?_
  rintro e w2 ⟨rfl, rfl⟩
  go_wp2_with fail
  go_ret
  exact ⟨rfl, Below.refl _ _⟩
set_option maxHeartbeats 1600000 in
theorem and_any (a b : Int) (w : World) (ht : Tb w) : Calls Tryd.prog 10 #[.int .i64 a, .int .i64 b] w fun e w' => e = .returned (.int .i64 (tand a b)) ∧ Below w.heap.size w w' := by
  obtain ⟨i, hi, e⟩ := tri_nat a
  obtain ⟨j, hj, f⟩ := tri_nat b
  have V := Lib.hid (fun w' => value_is e w')
  have U := Lib.hid (fun w' => value_is f w')
  have hc := ht.cc i j hi hj
  rw [← e, ← f, tand_tv] at hc
  generalize tand a b = R at *
  have i0 : (0 : Int) ≤ (i : Int) := by omega
  have i3 : (i : Int) < 3 := by omega
  have j0 : (0 : Int) ≤ (j : Int) := by omega
  have j3 : (j : Int) < 3 := by omega
  clear e f ht
  go_enter Tryd.func10, Tryd.ntmps10
  go_wp2_with fail
  go_quiet ((go_at_call 30; first | (with_reducible exact quiet_eq (V.out _)) | (with_reducible exact quiet_eq (U.out _))))
  go_wp2_with fail
  go_ret
  exact ⟨rfl, below_drewN (Below.refl _ _) _⟩
set_option maxHeartbeats 1600000 in
theorem or_any (a b : Int) (w : World) (ht : Tb w) : Calls Tryd.prog 12 #[.int .i64 a, .int .i64 b] w fun e w' => e = .returned (.int .i64 (tor a b)) ∧ Below w.heap.size w w' := by
  obtain ⟨i, hi, e⟩ := tri_nat a
  obtain ⟨j, hj, f⟩ := tri_nat b
  have V := Lib.hid (fun w' => value_is e w')
  have U := Lib.hid (fun w' => value_is f w')
  have hc := ht.dd i j hi hj
  rw [← e, ← f, tor_tv] at hc
  generalize tor a b = R at *
  have i0 : (0 : Int) ≤ (i : Int) := by omega
  have i3 : (i : Int) < 3 := by omega
  have j0 : (0 : Int) ≤ (j : Int) := by omega
  have j3 : (j : Int) < 3 := by omega
  clear e f ht
  go_enter Tryd.func12, Tryd.ntmps12
  go_wp2_with fail
  go_quiet ((go_at_call 30; first | (with_reducible exact quiet_eq (V.out _)) | (with_reducible exact quiet_eq (U.out _))))
  go_wp2_with fail
  go_ret
  exact ⟨rfl, below_drewN (Below.refl _ _) _⟩
/-! ### The reference -/
theorem rnot_any (a : Int) (w : World) : Calls Tryd.prog 15 #[.int .i64 a] w fun e w' => e = .returned (.int .i64 (tnot a)) ∧ w = w' := by
  have hR : tnot a = if tv a = 0 then 1 else if tv a = 1 then 0 else 2 := rfl
  rcases tv_cases a with ⟨rfl, e⟩ | ⟨rfl, e⟩ | ⟨h, h1, e⟩
  · rw [e, if_pos rfl] at hR
    rw [hR]
    clear e hR
    go_enter Tryd.func15, Tryd.ntmps15
    go_wp2_with fail
    go_ret
    exact ⟨rfl, rfl⟩
  · rw [e, if_neg (by decide), if_pos rfl] at hR
    rw [hR]
    clear e hR
    go_enter Tryd.func15, Tryd.ntmps15
    go_wp2_with fail
    go_ret
    exact ⟨rfl, rfl⟩
  · rw [e, if_neg (by decide), if_neg (by decide)] at hR
    rw [hR]
    clear e hR
    have i0 : (a == 0) = false := by simp [h]
    have i1 : (a == 1) = false := by simp [h1]
    clear h h1
    go_enter Tryd.func15, Tryd.ntmps15
    go_wp2_with fail
    go_ret
    exact ⟨rfl, rfl⟩
theorem rand_any (a b : Int) (w : World) : Calls Tryd.prog 11 #[.int .i64 a, .int .i64 b] w fun e w' => e = .returned (.int .i64 (tand a b)) ∧ w = w' := by
  obtain ⟨x, hx⟩ : ∃ x : Bool, (a == 0) = x := ⟨_, rfl⟩
  obtain ⟨y, hy⟩ : ∃ y : Bool, (b == 0) = y := ⟨_, rfl⟩
  obtain ⟨z, hz⟩ : ∃ z : Bool, (a == 1) = z := ⟨_, rfl⟩
  obtain ⟨u, hu⟩ : ∃ u : Bool, (b == 1) = u := ⟨_, rfl⟩
  have hR : tand a b = if x || y then 0 else if z && u then 1 else 2 := by
    subst hx hy hz hu
    rcases tv_cases a with ⟨h, e⟩ | ⟨h, e⟩ | ⟨h, h1, e⟩ <;> rcases tv_cases b with ⟨k, f⟩ | ⟨k, f⟩ | ⟨k, k1, f⟩ <;> unfold tand <;> rw [e, f] <;> simp [*]
  rw [hR]
  clear hR
  cases x <;> cases y <;> cases z <;> cases u
  all_goals
    go_enter Tryd.func11, Tryd.ntmps11
    go_wp2_with fail
    go_ret
    exact ⟨rfl, rfl⟩
theorem ror_any (a b : Int) (w : World) : Calls Tryd.prog 13 #[.int .i64 a, .int .i64 b] w fun e w' => e = .returned (.int .i64 (tor a b)) ∧ w = w' := by
  rw [tor_dual]
  have N1 := Lib.hid (fun w' => rnot_any a w')
  have N2 := Lib.hid (fun w' => rnot_any b w')
  have N3 := Lib.hid (fun w' => rand_any (tnot a) (tnot b) w')
  have N4 := Lib.hid (fun w' => rnot_any (tand (tnot a) (tnot b)) w')
  generalize tnot (tand (tnot a) (tnot b)) = R at *
  generalize tand (tnot a) (tnot b) = S at *
  generalize tnot a = x at *
  generalize tnot b = y at *
  go_enter Tryd.func13, Tryd.ntmps13
  go_wp2_with fail
  refine (N1.out w).mono ?_
  rintro e w2 ⟨rfl, rfl⟩
  go_wp2_with fail
  refine (N2.out w).mono ?_
  rintro e w2 ⟨rfl, rfl⟩
  go_wp2_with fail
  refine (N3.out w).mono ?_
  rintro e w2 ⟨rfl, rfl⟩
  go_wp2_with fail
  refine (N4.out w).mono ?_
  rintro e w2 ⟨rfl, rfl⟩
  go_wp2_with fail
  go_ret
  exact ⟨rfl, rfl⟩
end NetTt
end Go.Proofs.YtedilgnnfmplgaaDoor
