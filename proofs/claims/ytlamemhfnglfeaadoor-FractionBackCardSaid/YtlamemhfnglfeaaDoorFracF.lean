/- The contracts of Add, Sub, Mul and Div (package fraction), for all fractions. No conditions. -/
import Derived.Test.YtlamemhfnglfeaaDoorKit
import Derived.Test.YtlamemhfnglfeaaDoorFracD
namespace Go.Proofs.YtlamemhfnglfeaaDoor
open Go Go.RowKit
namespace FracF
open Kit FracM
open FracB (fr make_any)
open FracD (valid_any)
set_option maxHeartbeats 1600000 in
theorem add_any (a b c d : Int) (w : World) (ha0 : -9223372036854775808 ≤ a) (ha1 : a ≤ 9223372036854775807) (hb0 : -9223372036854775808 ≤ b) (hb1 : b ≤ 9223372036854775807)
    (hc0 : -9223372036854775808 ≤ c) (hc1 : c ≤ 9223372036854775807) (hd0 : -9223372036854775808 ≤ d) (hd1 : d ≤ 9223372036854775807) :
    Calls Tryd.prog 15 #[.agg #[.int .i64 a, .int .i64 b], .agg #[.int .i64 c, .int .i64 d]] w fun e w' => e = .returned (fr (addF a b c d)) ∧ Below w.heap.size w w' := by
  unfold addF
  obtain ⟨V1, v1⟩ : ∃ V1, vld a b = V1 := ⟨_, rfl⟩
  obtain ⟨V2, v2⟩ : ∃ V2, vld c d = V2 := ⟨_, rfl⟩
  rw [v1, v2]
  cases V1
  case false =>
    rw [Bool.false_and, if_neg (by simp)]
    go_enter Tryd.func15, Tryd.ntmps15
    go_wp2_with fail
    refine (valid_any _ _ _ (by omega) (by omega) (by omega) (by omega)).mono ?_
    rintro e w1 ⟨rfl, k1⟩
    have A0 : Has w1 w.heap.size #[.int .i64 a, .int .i64 b] := (((Has.new w 23 _).alloc _).alloc _).below k1 (by simp; omega)
    have A1 : Has w1 (w.heap.size + 1) #[.int .i64 c, .int .i64 d] := ((Has.new1 w _ 23 _).alloc _).below k1 (by simp)
    have A2 : Has w1 (w.heap.size + 1 + 1) #[.int .i64 0, .int .i64 0] := (Has.new2 w _ _ 23 _).below k1 (by simp)
    have B1 : Below w.heap.size w w1 := (((below_alloc w _).alloc (by simp) _).alloc (by simp; omega) _).trans (k1.mono (by simp; omega))
    clear k1
    obtain ⟨c0, c1, _, _, _⟩ := A0.two
    obtain ⟨c2, c3, _, _, _⟩ := A1.two
    obtain ⟨c4, c5, f4, f5, z1⟩ := A2.two
    go_wp2_with fail
    have r0 := A2.put0 (.int .i64 0) (.int .i64 0)
    have r1 := A2.put1 (.int .i64 0) (.int .i64 0)
    refine bodyPost_ret (v := fr (0, 0, 13)) (by simp [results, Tryd.results15, go_sem, r0, r1]) rfl ?_
    exact ⟨rfl, by repeat (first | exact B1 | refine Below.setCell ?_ (by simp; omega) _)⟩
  case true =>
  cases V2
  case false =>
    rw [Bool.and_false, if_neg (by simp)]
    go_enter Tryd.func15, Tryd.ntmps15
    go_wp2_with fail
    refine (valid_any _ _ _ (by omega) (by omega) (by omega) (by omega)).mono ?_
    rintro e w1 ⟨rfl, k1⟩
    have A0 : Has w1 w.heap.size #[.int .i64 a, .int .i64 b] := (((Has.new w 23 _).alloc _).alloc _).below k1 (by simp; omega)
    have A1 : Has w1 (w.heap.size + 1) #[.int .i64 c, .int .i64 d] := ((Has.new1 w _ 23 _).alloc _).below k1 (by simp)
    have A2 : Has w1 (w.heap.size + 1 + 1) #[.int .i64 0, .int .i64 0] := (Has.new2 w _ _ 23 _).below k1 (by simp)
    have B1 : Below w.heap.size w w1 := (((below_alloc w _).alloc (by simp) _).alloc (by simp; omega) _).trans (k1.mono (by simp; omega))
    clear k1
    obtain ⟨c0, c1, _, _, _⟩ := A0.two
    obtain ⟨c2, c3, _, _, _⟩ := A1.two
    obtain ⟨c4, c5, f4, f5, z1⟩ := A2.two
    go_wp2_with fail
    clear c0 c1 c2 c3 c4 c5 f4 f5
    refine (valid_any _ _ _ (by omega) (by omega) (by omega) (by omega)).mono ?_
    rintro e w2 ⟨rfl, k2⟩
    have B2 : Below w.heap.size w w2 := B1.trans (k2.mono (by omega))
    have z2 := Nat.lt_of_lt_of_le z1 k2.size
    obtain ⟨c0, c1, _, _, _⟩ := (A0.below k2 (by omega)).two
    obtain ⟨c2, c3, _, _, _⟩ := (A1.below k2 (by omega)).two
    obtain ⟨c4, c5, f4, f5, _⟩ := (A2.below k2 (by omega)).two
    go_wp2_with fail
    have r0 := (A2.below k2 (by omega)).put0 (.int .i64 0) (.int .i64 0)
    have r1 := (A2.below k2 (by omega)).put1 (.int .i64 0) (.int .i64 0)
    refine bodyPost_ret (v := fr (0, 0, 13)) (by simp [results, Tryd.results15, go_sem, r0, r1]) rfl ?_
    exact ⟨rfl, by repeat (first | exact B2 | refine Below.setCell ?_ (by simp; omega) _)⟩
  case true =>
    rw [Bool.and_true, if_pos rfl]
    obtain ⟨hA, hB, hB1⟩ := vld_in v1
    obtain ⟨hC, hD, hD1⟩ := vld_in v2
    have m1 := mul_in30 hA hD
    have m2 := mul_in30 hC hB
    have m3 := mul_in30 hB hD
    have hmk := fun w2 => make_any (a * d + c * b) (b * d) w2 (by omega) (by omega) (by omega) (by omega)
    generalize mk (a * d + c * b) (b * d) = m at hmk ⊢
    have Hmk := Lib.hid hmk; clear hmk
    go_enter Tryd.func15, Tryd.ntmps15
    go_wp2_with fail
    refine (valid_any _ _ _ (by omega) (by omega) (by omega) (by omega)).mono ?_
    rintro e w1 ⟨rfl, k1⟩
    have A0 : Has w1 w.heap.size #[.int .i64 a, .int .i64 b] := (((Has.new w 23 _).alloc _).alloc _).below k1 (by simp; omega)
    have A1 : Has w1 (w.heap.size + 1) #[.int .i64 c, .int .i64 d] := ((Has.new1 w _ 23 _).alloc _).below k1 (by simp)
    have A2 : Has w1 (w.heap.size + 1 + 1) #[.int .i64 0, .int .i64 0] := (Has.new2 w _ _ 23 _).below k1 (by simp)
    have B1 : Below w.heap.size w w1 := (((below_alloc w _).alloc (by simp) _).alloc (by simp; omega) _).trans (k1.mono (by simp; omega))
    clear k1
    obtain ⟨c0, c1, _, _, _⟩ := A0.two
    obtain ⟨c2, c3, _, _, _⟩ := A1.two
    obtain ⟨c4, c5, f4, f5, z1⟩ := A2.two
    go_wp2_with fail
    clear c0 c1 c2 c3 c4 c5 f4 f5
    refine (valid_any _ _ _ (by omega) (by omega) (by omega) (by omega)).mono ?_
    rintro e w2 ⟨rfl, k2⟩
    have B2 : Below w.heap.size w w2 := B1.trans (k2.mono (by omega))
    have z2 := Nat.lt_of_lt_of_le z1 k2.size
    obtain ⟨c0, c1, _, _, _⟩ := (A0.below k2 (by omega)).two
    obtain ⟨c2, c3, _, _, _⟩ := (A1.below k2 (by omega)).two
    obtain ⟨c4, c5, f4, f5, _⟩ := (A2.below k2 (by omega)).two
    go_wp2_with fail
    refine (Hmk.out w2).mono ?_
    rintro e w3 ⟨rfl, k3⟩
    have B3 : Below w.heap.size w w3 := B2.trans (k3.mono (by omega))
    have z3 := Nat.lt_of_lt_of_le z2 k3.size
    clear c0 c1 c2 c3 c4 c5 f4 f5
    obtain ⟨c4, c5, f4, f5, _⟩ := ((A2.below k2 (by omega)).below k3 (by omega)).two
    go_wp2_with fail
    have r0 := ((A2.below k2 (by omega)).below k3 (by omega)).put0 (.int .i64 m.1) (.int .i64 m.2.1)
    have r1 := ((A2.below k2 (by omega)).below k3 (by omega)).put1 (.int .i64 m.1) (.int .i64 m.2.1)
    refine bodyPost_ret (v := fr m) (by simp [results, Tryd.results15, go_sem, r0, r1]) rfl ?_
    exact ⟨rfl, by repeat (first | exact B3 | refine Below.setCell ?_ (by simp; omega) _)⟩

set_option maxHeartbeats 1600000 in
theorem sub_any (a b c d : Int) (w : World) (ha0 : -9223372036854775808 ≤ a) (ha1 : a ≤ 9223372036854775807) (hb0 : -9223372036854775808 ≤ b) (hb1 : b ≤ 9223372036854775807)
    (hc0 : -9223372036854775808 ≤ c) (hc1 : c ≤ 9223372036854775807) (hd0 : -9223372036854775808 ≤ d) (hd1 : d ≤ 9223372036854775807) :
    Calls Tryd.prog 16 #[.agg #[.int .i64 a, .int .i64 b], .agg #[.int .i64 c, .int .i64 d]] w fun e w' => e = .returned (fr (subF a b c d)) ∧ Below w.heap.size w w' := by
  unfold subF
  obtain ⟨V1, v1⟩ : ∃ V1, vld a b = V1 := ⟨_, rfl⟩
  obtain ⟨V2, v2⟩ : ∃ V2, vld c d = V2 := ⟨_, rfl⟩
  rw [v1, v2]
  cases V1
  case false =>
    rw [Bool.false_and, if_neg (by simp)]
    go_enter Tryd.func16, Tryd.ntmps16
    go_wp2_with fail
    refine (valid_any _ _ _ (by omega) (by omega) (by omega) (by omega)).mono ?_
    rintro e w1 ⟨rfl, k1⟩
    have A0 : Has w1 w.heap.size #[.int .i64 a, .int .i64 b] := (((Has.new w 23 _).alloc _).alloc _).below k1 (by simp; omega)
    have A1 : Has w1 (w.heap.size + 1) #[.int .i64 c, .int .i64 d] := ((Has.new1 w _ 23 _).alloc _).below k1 (by simp)
    have A2 : Has w1 (w.heap.size + 1 + 1) #[.int .i64 0, .int .i64 0] := (Has.new2 w _ _ 23 _).below k1 (by simp)
    have B1 : Below w.heap.size w w1 := (((below_alloc w _).alloc (by simp) _).alloc (by simp; omega) _).trans (k1.mono (by simp; omega))
    clear k1
    obtain ⟨c0, c1, _, _, _⟩ := A0.two
    obtain ⟨c2, c3, _, _, _⟩ := A1.two
    obtain ⟨c4, c5, f4, f5, z1⟩ := A2.two
    go_wp2_with fail
    have r0 := A2.put0 (.int .i64 0) (.int .i64 0)
    have r1 := A2.put1 (.int .i64 0) (.int .i64 0)
    refine bodyPost_ret (v := fr (0, 0, 13)) (by simp [results, Tryd.results16, go_sem, r0, r1]) rfl ?_
    exact ⟨rfl, by repeat (first | exact B1 | refine Below.setCell ?_ (by simp; omega) _)⟩
  case true =>
  cases V2
  case false =>
    rw [Bool.and_false, if_neg (by simp)]
    go_enter Tryd.func16, Tryd.ntmps16
    go_wp2_with fail
    refine (valid_any _ _ _ (by omega) (by omega) (by omega) (by omega)).mono ?_
    rintro e w1 ⟨rfl, k1⟩
    have A0 : Has w1 w.heap.size #[.int .i64 a, .int .i64 b] := (((Has.new w 23 _).alloc _).alloc _).below k1 (by simp; omega)
    have A1 : Has w1 (w.heap.size + 1) #[.int .i64 c, .int .i64 d] := ((Has.new1 w _ 23 _).alloc _).below k1 (by simp)
    have A2 : Has w1 (w.heap.size + 1 + 1) #[.int .i64 0, .int .i64 0] := (Has.new2 w _ _ 23 _).below k1 (by simp)
    have B1 : Below w.heap.size w w1 := (((below_alloc w _).alloc (by simp) _).alloc (by simp; omega) _).trans (k1.mono (by simp; omega))
    clear k1
    obtain ⟨c0, c1, _, _, _⟩ := A0.two
    obtain ⟨c2, c3, _, _, _⟩ := A1.two
    obtain ⟨c4, c5, f4, f5, z1⟩ := A2.two
    go_wp2_with fail
    clear c0 c1 c2 c3 c4 c5 f4 f5
    refine (valid_any _ _ _ (by omega) (by omega) (by omega) (by omega)).mono ?_
    rintro e w2 ⟨rfl, k2⟩
    have B2 : Below w.heap.size w w2 := B1.trans (k2.mono (by omega))
    have z2 := Nat.lt_of_lt_of_le z1 k2.size
    obtain ⟨c0, c1, _, _, _⟩ := (A0.below k2 (by omega)).two
    obtain ⟨c2, c3, _, _, _⟩ := (A1.below k2 (by omega)).two
    obtain ⟨c4, c5, f4, f5, _⟩ := (A2.below k2 (by omega)).two
    go_wp2_with fail
    have r0 := (A2.below k2 (by omega)).put0 (.int .i64 0) (.int .i64 0)
    have r1 := (A2.below k2 (by omega)).put1 (.int .i64 0) (.int .i64 0)
    refine bodyPost_ret (v := fr (0, 0, 13)) (by simp [results, Tryd.results16, go_sem, r0, r1]) rfl ?_
    exact ⟨rfl, by repeat (first | exact B2 | refine Below.setCell ?_ (by simp; omega) _)⟩
  case true =>
    rw [Bool.and_true, if_pos rfl]
    obtain ⟨hA, hB, hB1⟩ := vld_in v1
    obtain ⟨hC, hD, hD1⟩ := vld_in v2
    have m1 := mul_in30 hA hD
    have m2 := mul_in30 hC hB
    have m3 := mul_in30 hB hD
    have hmk := fun w2 => make_any (a * d - c * b) (b * d) w2 (by omega) (by omega) (by omega) (by omega)
    generalize mk (a * d - c * b) (b * d) = m at hmk ⊢
    have Hmk := Lib.hid hmk; clear hmk
    go_enter Tryd.func16, Tryd.ntmps16
    go_wp2_with fail
    refine (valid_any _ _ _ (by omega) (by omega) (by omega) (by omega)).mono ?_
    rintro e w1 ⟨rfl, k1⟩
    have A0 : Has w1 w.heap.size #[.int .i64 a, .int .i64 b] := (((Has.new w 23 _).alloc _).alloc _).below k1 (by simp; omega)
    have A1 : Has w1 (w.heap.size + 1) #[.int .i64 c, .int .i64 d] := ((Has.new1 w _ 23 _).alloc _).below k1 (by simp)
    have A2 : Has w1 (w.heap.size + 1 + 1) #[.int .i64 0, .int .i64 0] := (Has.new2 w _ _ 23 _).below k1 (by simp)
    have B1 : Below w.heap.size w w1 := (((below_alloc w _).alloc (by simp) _).alloc (by simp; omega) _).trans (k1.mono (by simp; omega))
    clear k1
    obtain ⟨c0, c1, _, _, _⟩ := A0.two
    obtain ⟨c2, c3, _, _, _⟩ := A1.two
    obtain ⟨c4, c5, f4, f5, z1⟩ := A2.two
    go_wp2_with fail
    clear c0 c1 c2 c3 c4 c5 f4 f5
    refine (valid_any _ _ _ (by omega) (by omega) (by omega) (by omega)).mono ?_
    rintro e w2 ⟨rfl, k2⟩
    have B2 : Below w.heap.size w w2 := B1.trans (k2.mono (by omega))
    have z2 := Nat.lt_of_lt_of_le z1 k2.size
    obtain ⟨c0, c1, _, _, _⟩ := (A0.below k2 (by omega)).two
    obtain ⟨c2, c3, _, _, _⟩ := (A1.below k2 (by omega)).two
    obtain ⟨c4, c5, f4, f5, _⟩ := (A2.below k2 (by omega)).two
    go_wp2_with fail
    refine (Hmk.out w2).mono ?_
    rintro e w3 ⟨rfl, k3⟩
    have B3 : Below w.heap.size w w3 := B2.trans (k3.mono (by omega))
    have z3 := Nat.lt_of_lt_of_le z2 k3.size
    clear c0 c1 c2 c3 c4 c5 f4 f5
    obtain ⟨c4, c5, f4, f5, _⟩ := ((A2.below k2 (by omega)).below k3 (by omega)).two
    go_wp2_with fail
    have r0 := ((A2.below k2 (by omega)).below k3 (by omega)).put0 (.int .i64 m.1) (.int .i64 m.2.1)
    have r1 := ((A2.below k2 (by omega)).below k3 (by omega)).put1 (.int .i64 m.1) (.int .i64 m.2.1)
    refine bodyPost_ret (v := fr m) (by simp [results, Tryd.results16, go_sem, r0, r1]) rfl ?_
    exact ⟨rfl, by repeat (first | exact B3 | refine Below.setCell ?_ (by simp; omega) _)⟩

set_option maxHeartbeats 1600000 in
theorem mul_any (a b c d : Int) (w : World) (ha0 : -9223372036854775808 ≤ a) (ha1 : a ≤ 9223372036854775807) (hb0 : -9223372036854775808 ≤ b) (hb1 : b ≤ 9223372036854775807)
    (hc0 : -9223372036854775808 ≤ c) (hc1 : c ≤ 9223372036854775807) (hd0 : -9223372036854775808 ≤ d) (hd1 : d ≤ 9223372036854775807) :
    Calls Tryd.prog 17 #[.agg #[.int .i64 a, .int .i64 b], .agg #[.int .i64 c, .int .i64 d]] w fun e w' => e = .returned (fr (mulF a b c d)) ∧ Below w.heap.size w w' := by
  unfold mulF
  obtain ⟨V1, v1⟩ : ∃ V1, vld a b = V1 := ⟨_, rfl⟩
  obtain ⟨V2, v2⟩ : ∃ V2, vld c d = V2 := ⟨_, rfl⟩
  rw [v1, v2]
  cases V1
  case false =>
    rw [Bool.false_and, if_neg (by simp)]
    go_enter Tryd.func17, Tryd.ntmps17
    go_wp2_with fail
    refine (valid_any _ _ _ (by omega) (by omega) (by omega) (by omega)).mono ?_
    rintro e w1 ⟨rfl, k1⟩
    have A0 : Has w1 w.heap.size #[.int .i64 a, .int .i64 b] := (((Has.new w 23 _).alloc _).alloc _).below k1 (by simp; omega)
    have A1 : Has w1 (w.heap.size + 1) #[.int .i64 c, .int .i64 d] := ((Has.new1 w _ 23 _).alloc _).below k1 (by simp)
    have A2 : Has w1 (w.heap.size + 1 + 1) #[.int .i64 0, .int .i64 0] := (Has.new2 w _ _ 23 _).below k1 (by simp)
    have B1 : Below w.heap.size w w1 := (((below_alloc w _).alloc (by simp) _).alloc (by simp; omega) _).trans (k1.mono (by simp; omega))
    clear k1
    obtain ⟨c0, c1, _, _, _⟩ := A0.two
    obtain ⟨c2, c3, _, _, _⟩ := A1.two
    obtain ⟨c4, c5, f4, f5, z1⟩ := A2.two
    go_wp2_with fail
    have r0 := A2.put0 (.int .i64 0) (.int .i64 0)
    have r1 := A2.put1 (.int .i64 0) (.int .i64 0)
    refine bodyPost_ret (v := fr (0, 0, 13)) (by simp [results, Tryd.results17, go_sem, r0, r1]) rfl ?_
    exact ⟨rfl, by repeat (first | exact B1 | refine Below.setCell ?_ (by simp; omega) _)⟩
  case true =>
  cases V2
  case false =>
    rw [Bool.and_false, if_neg (by simp)]
    go_enter Tryd.func17, Tryd.ntmps17
    go_wp2_with fail
    refine (valid_any _ _ _ (by omega) (by omega) (by omega) (by omega)).mono ?_
    rintro e w1 ⟨rfl, k1⟩
    have A0 : Has w1 w.heap.size #[.int .i64 a, .int .i64 b] := (((Has.new w 23 _).alloc _).alloc _).below k1 (by simp; omega)
    have A1 : Has w1 (w.heap.size + 1) #[.int .i64 c, .int .i64 d] := ((Has.new1 w _ 23 _).alloc _).below k1 (by simp)
    have A2 : Has w1 (w.heap.size + 1 + 1) #[.int .i64 0, .int .i64 0] := (Has.new2 w _ _ 23 _).below k1 (by simp)
    have B1 : Below w.heap.size w w1 := (((below_alloc w _).alloc (by simp) _).alloc (by simp; omega) _).trans (k1.mono (by simp; omega))
    clear k1
    obtain ⟨c0, c1, _, _, _⟩ := A0.two
    obtain ⟨c2, c3, _, _, _⟩ := A1.two
    obtain ⟨c4, c5, f4, f5, z1⟩ := A2.two
    go_wp2_with fail
    clear c0 c1 c2 c3 c4 c5 f4 f5
    refine (valid_any _ _ _ (by omega) (by omega) (by omega) (by omega)).mono ?_
    rintro e w2 ⟨rfl, k2⟩
    have B2 : Below w.heap.size w w2 := B1.trans (k2.mono (by omega))
    have z2 := Nat.lt_of_lt_of_le z1 k2.size
    obtain ⟨c0, c1, _, _, _⟩ := (A0.below k2 (by omega)).two
    obtain ⟨c2, c3, _, _, _⟩ := (A1.below k2 (by omega)).two
    obtain ⟨c4, c5, f4, f5, _⟩ := (A2.below k2 (by omega)).two
    go_wp2_with fail
    have r0 := (A2.below k2 (by omega)).put0 (.int .i64 0) (.int .i64 0)
    have r1 := (A2.below k2 (by omega)).put1 (.int .i64 0) (.int .i64 0)
    refine bodyPost_ret (v := fr (0, 0, 13)) (by simp [results, Tryd.results17, go_sem, r0, r1]) rfl ?_
    exact ⟨rfl, by repeat (first | exact B2 | refine Below.setCell ?_ (by simp; omega) _)⟩
  case true =>
    rw [Bool.and_true, if_pos rfl]
    obtain ⟨hA, hB, hB1⟩ := vld_in v1
    obtain ⟨hC, hD, hD1⟩ := vld_in v2
    have m1 := mul_in30 hA hC
    have m3 := mul_in30 hB hD
    have hmk := fun w2 => make_any (a * c) (b * d) w2 (by omega) (by omega) (by omega) (by omega)
    generalize mk (a * c) (b * d) = m at hmk ⊢
    have Hmk := Lib.hid hmk; clear hmk
    go_enter Tryd.func17, Tryd.ntmps17
    go_wp2_with fail
    refine (valid_any _ _ _ (by omega) (by omega) (by omega) (by omega)).mono ?_
    rintro e w1 ⟨rfl, k1⟩
    have A0 : Has w1 w.heap.size #[.int .i64 a, .int .i64 b] := (((Has.new w 23 _).alloc _).alloc _).below k1 (by simp; omega)
    have A1 : Has w1 (w.heap.size + 1) #[.int .i64 c, .int .i64 d] := ((Has.new1 w _ 23 _).alloc _).below k1 (by simp)
    have A2 : Has w1 (w.heap.size + 1 + 1) #[.int .i64 0, .int .i64 0] := (Has.new2 w _ _ 23 _).below k1 (by simp)
    have B1 : Below w.heap.size w w1 := (((below_alloc w _).alloc (by simp) _).alloc (by simp; omega) _).trans (k1.mono (by simp; omega))
    clear k1
    obtain ⟨c0, c1, _, _, _⟩ := A0.two
    obtain ⟨c2, c3, _, _, _⟩ := A1.two
    obtain ⟨c4, c5, f4, f5, z1⟩ := A2.two
    go_wp2_with fail
    clear c0 c1 c2 c3 c4 c5 f4 f5
    refine (valid_any _ _ _ (by omega) (by omega) (by omega) (by omega)).mono ?_
    rintro e w2 ⟨rfl, k2⟩
    have B2 : Below w.heap.size w w2 := B1.trans (k2.mono (by omega))
    have z2 := Nat.lt_of_lt_of_le z1 k2.size
    obtain ⟨c0, c1, _, _, _⟩ := (A0.below k2 (by omega)).two
    obtain ⟨c2, c3, _, _, _⟩ := (A1.below k2 (by omega)).two
    obtain ⟨c4, c5, f4, f5, _⟩ := (A2.below k2 (by omega)).two
    go_wp2_with fail
    refine (Hmk.out w2).mono ?_
    rintro e w3 ⟨rfl, k3⟩
    have B3 : Below w.heap.size w w3 := B2.trans (k3.mono (by omega))
    have z3 := Nat.lt_of_lt_of_le z2 k3.size
    clear c0 c1 c2 c3 c4 c5 f4 f5
    obtain ⟨c4, c5, f4, f5, _⟩ := ((A2.below k2 (by omega)).below k3 (by omega)).two
    go_wp2_with fail
    have r0 := ((A2.below k2 (by omega)).below k3 (by omega)).put0 (.int .i64 m.1) (.int .i64 m.2.1)
    have r1 := ((A2.below k2 (by omega)).below k3 (by omega)).put1 (.int .i64 m.1) (.int .i64 m.2.1)
    refine bodyPost_ret (v := fr m) (by simp [results, Tryd.results17, go_sem, r0, r1]) rfl ?_
    exact ⟨rfl, by repeat (first | exact B3 | refine Below.setCell ?_ (by simp; omega) _)⟩

set_option maxHeartbeats 1600000 in
theorem div_any (a b c d : Int) (w : World) (ha0 : -9223372036854775808 ≤ a) (ha1 : a ≤ 9223372036854775807) (hb0 : -9223372036854775808 ≤ b) (hb1 : b ≤ 9223372036854775807)
    (hc0 : -9223372036854775808 ≤ c) (hc1 : c ≤ 9223372036854775807) (hd0 : -9223372036854775808 ≤ d) (hd1 : d ≤ 9223372036854775807) :
    Calls Tryd.prog 18 #[.agg #[.int .i64 a, .int .i64 b], .agg #[.int .i64 c, .int .i64 d]] w fun e w' => e = .returned (fr (divF a b c d)) ∧ Below w.heap.size w w' := by
  unfold divF
  obtain ⟨V1, v1⟩ : ∃ V1, vld a b = V1 := ⟨_, rfl⟩
  obtain ⟨V2, v2⟩ : ∃ V2, vld c d = V2 := ⟨_, rfl⟩
  rw [v1, v2]
  cases V1
  case false =>
    rw [Bool.false_and, if_neg (by simp)]
    go_enter Tryd.func18, Tryd.ntmps18
    go_wp2_with fail
    refine (valid_any _ _ _ (by omega) (by omega) (by omega) (by omega)).mono ?_
    rintro e w1 ⟨rfl, k1⟩
    have A0 : Has w1 w.heap.size #[.int .i64 a, .int .i64 b] := (((Has.new w 23 _).alloc _).alloc _).below k1 (by simp; omega)
    have A1 : Has w1 (w.heap.size + 1) #[.int .i64 c, .int .i64 d] := ((Has.new1 w _ 23 _).alloc _).below k1 (by simp)
    have A2 : Has w1 (w.heap.size + 1 + 1) #[.int .i64 0, .int .i64 0] := (Has.new2 w _ _ 23 _).below k1 (by simp)
    have B1 : Below w.heap.size w w1 := (((below_alloc w _).alloc (by simp) _).alloc (by simp; omega) _).trans (k1.mono (by simp; omega))
    clear k1
    obtain ⟨c0, c1, _, _, _⟩ := A0.two
    obtain ⟨c2, c3, _, _, _⟩ := A1.two
    obtain ⟨c4, c5, f4, f5, z1⟩ := A2.two
    go_wp2_with fail
    have r0 := A2.put0 (.int .i64 0) (.int .i64 0)
    have r1 := A2.put1 (.int .i64 0) (.int .i64 0)
    refine bodyPost_ret (v := fr (0, 0, 13)) (by simp [results, Tryd.results18, go_sem, r0, r1]) rfl ?_
    exact ⟨rfl, by repeat (first | exact B1 | refine Below.setCell ?_ (by simp; omega) _)⟩
  case true =>
  cases V2
  case false =>
    rw [Bool.and_false, if_neg (by simp)]
    go_enter Tryd.func18, Tryd.ntmps18
    go_wp2_with fail
    refine (valid_any _ _ _ (by omega) (by omega) (by omega) (by omega)).mono ?_
    rintro e w1 ⟨rfl, k1⟩
    have A0 : Has w1 w.heap.size #[.int .i64 a, .int .i64 b] := (((Has.new w 23 _).alloc _).alloc _).below k1 (by simp; omega)
    have A1 : Has w1 (w.heap.size + 1) #[.int .i64 c, .int .i64 d] := ((Has.new1 w _ 23 _).alloc _).below k1 (by simp)
    have A2 : Has w1 (w.heap.size + 1 + 1) #[.int .i64 0, .int .i64 0] := (Has.new2 w _ _ 23 _).below k1 (by simp)
    have B1 : Below w.heap.size w w1 := (((below_alloc w _).alloc (by simp) _).alloc (by simp; omega) _).trans (k1.mono (by simp; omega))
    clear k1
    obtain ⟨c0, c1, _, _, _⟩ := A0.two
    obtain ⟨c2, c3, _, _, _⟩ := A1.two
    obtain ⟨c4, c5, f4, f5, z1⟩ := A2.two
    go_wp2_with fail
    clear c0 c1 c2 c3 c4 c5 f4 f5
    refine (valid_any _ _ _ (by omega) (by omega) (by omega) (by omega)).mono ?_
    rintro e w2 ⟨rfl, k2⟩
    have B2 : Below w.heap.size w w2 := B1.trans (k2.mono (by omega))
    have z2 := Nat.lt_of_lt_of_le z1 k2.size
    obtain ⟨c0, c1, _, _, _⟩ := (A0.below k2 (by omega)).two
    obtain ⟨c2, c3, _, _, _⟩ := (A1.below k2 (by omega)).two
    obtain ⟨c4, c5, f4, f5, _⟩ := (A2.below k2 (by omega)).two
    go_wp2_with fail
    have r0 := (A2.below k2 (by omega)).put0 (.int .i64 0) (.int .i64 0)
    have r1 := (A2.below k2 (by omega)).put1 (.int .i64 0) (.int .i64 0)
    refine bodyPost_ret (v := fr (0, 0, 13)) (by simp [results, Tryd.results18, go_sem, r0, r1]) rfl ?_
    exact ⟨rfl, by repeat (first | exact B2 | refine Below.setCell ?_ (by simp; omega) _)⟩
  case true =>
    rw [Bool.and_true, if_pos rfl]
    obtain ⟨hA, hB, hB1⟩ := vld_in v1
    obtain ⟨hC, hD, hD1⟩ := vld_in v2
    by_cases hc : c = 0
    · subst hc
      rw [if_pos rfl]
      go_enter Tryd.func18, Tryd.ntmps18
      go_wp2_with fail
      refine (valid_any _ _ _ (by omega) (by omega) (by omega) (by omega)).mono ?_
      rintro e w1 ⟨rfl, k1⟩
      have A0 : Has w1 w.heap.size #[.int .i64 a, .int .i64 b] := (((Has.new w 23 _).alloc _).alloc _).below k1 (by simp; omega)
      have A1 : Has w1 (w.heap.size + 1) #[.int .i64 0, .int .i64 d] := ((Has.new1 w _ 23 _).alloc _).below k1 (by simp)
      have A2 : Has w1 (w.heap.size + 1 + 1) #[.int .i64 0, .int .i64 0] := (Has.new2 w _ _ 23 _).below k1 (by simp)
      have B1 : Below w.heap.size w w1 := (((below_alloc w _).alloc (by simp) _).alloc (by simp; omega) _).trans (k1.mono (by simp; omega))
      clear k1
      obtain ⟨c0, c1, _, _, _⟩ := A0.two
      obtain ⟨c2, c3, _, _, _⟩ := A1.two
      obtain ⟨c4, c5, f4, f5, z1⟩ := A2.two
      go_wp2_with fail
      clear c0 c1 c2 c3 c4 c5 f4 f5
      refine (valid_any _ _ _ (by omega) (by omega) (by omega) (by omega)).mono ?_
      rintro e w2 ⟨rfl, k2⟩
      have B2 : Below w.heap.size w w2 := B1.trans (k2.mono (by omega))
      have z2 := Nat.lt_of_lt_of_le z1 k2.size
      obtain ⟨c0, c1, _, _, _⟩ := (A0.below k2 (by omega)).two
      obtain ⟨c2, c3, _, _, _⟩ := (A1.below k2 (by omega)).two
      obtain ⟨c4, c5, f4, f5, _⟩ := (A2.below k2 (by omega)).two
      go_wp2_with fail
      have r0 := (A2.below k2 (by omega)).put0 (.int .i64 0) (.int .i64 0)
      have r1 := (A2.below k2 (by omega)).put1 (.int .i64 0) (.int .i64 0)
      refine bodyPost_ret (v := fr (0, 0, 12)) (by simp [results, Tryd.results18, go_sem, r0, r1]) rfl ?_
      exact ⟨rfl, by repeat (first | exact B2 | refine Below.setCell ?_ (by simp; omega) _)⟩
    · have hc' : (c == 0) = false := by simpa using hc
      rw [if_neg hc]
      have m1 := mul_in30 hA hD
      have m3 := mul_in30 hB hC
      have hmk := fun w2 => make_any (a * d) (b * c) w2 (by omega) (by omega) (by omega) (by omega)
      generalize mk (a * d) (b * c) = m at hmk ⊢
      have Hmk := Lib.hid hmk; clear hmk
      go_enter Tryd.func18, Tryd.ntmps18
      go_wp2_with fail
      refine (valid_any _ _ _ (by omega) (by omega) (by omega) (by omega)).mono ?_
      rintro e w1 ⟨rfl, k1⟩
      have A0 : Has w1 w.heap.size #[.int .i64 a, .int .i64 b] := (((Has.new w 23 _).alloc _).alloc _).below k1 (by simp; omega)
      have A1 : Has w1 (w.heap.size + 1) #[.int .i64 c, .int .i64 d] := ((Has.new1 w _ 23 _).alloc _).below k1 (by simp)
      have A2 : Has w1 (w.heap.size + 1 + 1) #[.int .i64 0, .int .i64 0] := (Has.new2 w _ _ 23 _).below k1 (by simp)
      have B1 : Below w.heap.size w w1 := (((below_alloc w _).alloc (by simp) _).alloc (by simp; omega) _).trans (k1.mono (by simp; omega))
      clear k1
      obtain ⟨c0, c1, _, _, _⟩ := A0.two
      obtain ⟨c2, c3, _, _, _⟩ := A1.two
      obtain ⟨c4, c5, f4, f5, z1⟩ := A2.two
      go_wp2_with fail
      clear c0 c1 c2 c3 c4 c5 f4 f5
      refine (valid_any _ _ _ (by omega) (by omega) (by omega) (by omega)).mono ?_
      rintro e w2 ⟨rfl, k2⟩
      have B2 : Below w.heap.size w w2 := B1.trans (k2.mono (by omega))
      have z2 := Nat.lt_of_lt_of_le z1 k2.size
      obtain ⟨c0, c1, _, _, _⟩ := (A0.below k2 (by omega)).two
      obtain ⟨c2, c3, _, _, _⟩ := (A1.below k2 (by omega)).two
      obtain ⟨c4, c5, f4, f5, _⟩ := (A2.below k2 (by omega)).two
      go_wp2_with fail
      refine (Hmk.out w2).mono ?_
      rintro e w3 ⟨rfl, k3⟩
      have B3 : Below w.heap.size w w3 := B2.trans (k3.mono (by omega))
      have z3 := Nat.lt_of_lt_of_le z2 k3.size
      clear c0 c1 c2 c3 c4 c5 f4 f5
      obtain ⟨c4, c5, f4, f5, _⟩ := ((A2.below k2 (by omega)).below k3 (by omega)).two
      go_wp2_with fail
      have r0 := ((A2.below k2 (by omega)).below k3 (by omega)).put0 (.int .i64 m.1) (.int .i64 m.2.1)
      have r1 := ((A2.below k2 (by omega)).below k3 (by omega)).put1 (.int .i64 m.1) (.int .i64 m.2.1)
      refine bodyPost_ret (v := fr m) (by simp [results, Tryd.results18, go_sem, r0, r1]) rfl ?_
      exact ⟨rfl, by repeat (first | exact B3 | refine Below.setCell ?_ (by simp; omega) _)⟩

end FracF
end Go.Proofs.YtlamemhfnglfeaaDoor
