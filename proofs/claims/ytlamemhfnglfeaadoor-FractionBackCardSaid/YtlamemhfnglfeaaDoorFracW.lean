/- The contract of the examples that every law of layer 2 runs (awake): they hold, where strconv's table of powers of ten is as laid. -/
import Derived.Test.YtlamemhfnglfeaaDoorKit
import Derived.Test.YtlamemhfnglfeaaDoorFracF
import Derived.Test.YtlamemhfnglfeaaDoorFracT
import Derived.Test.YtlamemhfnglfeaaDoorFracR
namespace Go.Proofs.YtlamemhfnglfeaaDoor
open Go Go.RowKit
namespace FracW
open Kit FracM
open FracB (fr)
open FracT (Tab tab_below)

theorem ex1 : mk 6 (-8) = (-3, 4, 0) := by decide
theorem ex2 : mk 1 0 = (0, 0, 13) := by decide
theorem ex3 : addF 1 2 1 3 = (5, 6, 0) := by decide
theorem ex4 : FracR.roundF 2 3 100 = (67, 100, 0) := by decide
theorem ex5 : FracT.text (-3) 4 = [45, 51, 47, 52] := by decide +kernel

theorem c1 (w : World) : Calls Tryd.prog 10 #[.int .i64 6, .int .i64 (-8)] w fun e w' => e = .returned (fr (-3, 4, 0)) ∧ Below w.heap.size w w' := by
  have h := FracB.make_any 6 (-8) w (by omega) (by omega) (by omega) (by omega)
  rwa [ex1] at h
theorem c2 (w : World) : Calls Tryd.prog 10 #[.int .i64 1, .int .i64 0] w fun e w' => e = .returned (fr (0, 0, 13)) ∧ Below w.heap.size w w' := by
  have h := FracB.make_any 1 0 w (by omega) (by omega) (by omega) (by omega)
  rwa [ex2] at h
theorem c3 (w : World) : Calls Tryd.prog 15 #[.agg #[.int .i64 1, .int .i64 2], .agg #[.int .i64 1, .int .i64 3]] w fun e w' => e = .returned (fr (5, 6, 0)) ∧ Below w.heap.size w w' := by
  have h := FracF.add_any 1 2 1 3 w (by omega) (by omega) (by omega) (by omega) (by omega) (by omega) (by omega) (by omega)
  rwa [ex3] at h
theorem c4 (w : World) : Calls Tryd.prog 34 #[.agg #[.int .i64 2, .int .i64 3], .int .i64 100] w fun e w' => e = .returned (fr (67, 100, 0)) ∧ Below w.heap.size w w' := by
  have h := FracR.round_any 2 3 100 w (by omega) (by omega) (by omega) (by omega)
  rwa [ex4] at h
theorem c5 (w : World) (ht : Tab w) : Calls Tryd.prog 38 #[.agg #[.int .i64 (-3), .int .i64 4]] w fun e w' => e = .returned (.string ⟨#[45, 51, 47, 52]⟩) ∧ Below w.heap.size w w' := by
  have h := FracT.text_any (-3) 4 w (by omega) (by omega) (by omega) (by omega) ht
  rwa [ex5] at h

set_option maxRecDepth 100000 in
set_option maxHeartbeats 1600000 in
theorem awake_any (w : World) (ht : Tab w) :
    Calls Tryd.prog 14 #[] w fun e w' => e = .returned (.bool true) ∧ Below w.heap.size w w' := by
  go_enter Tryd.func14, Tryd.ntmps14
  go_wp2_with fail
  refine (c1 _).mono ?_
  rintro e w1 ⟨rfl, k1⟩
  go_wp2_with fail
  refine (c2 _).mono ?_
  rintro e w2 ⟨rfl, k2⟩
  go_wp2_with fail
  refine (c3 _).mono ?_
  rintro e w3 ⟨rfl, k3⟩
  go_wp2_with fail
  refine (c4 _).mono ?_
  rintro e w4 ⟨rfl, k4⟩
  have A1 := ((((Has.new w1 23 #[.int .i64 (-3), .int .i64 4]).below k2 (by simp)).alloc (.cells #[.int .i64 0, .int .i64 0] 23)).below k3 (by have := k2.size; simp at this ⊢; omega)).alloc (.cells #[.int .i64 5, .int .i64 6] 23)
  have A3 := Has.new w3 23 #[.int .i64 5, .int .i64 6]
  have z1 := lt1 k2
  have z2 := lt1 k3
  have z3 := lt1 k4
  have B4 := next1 (next1 (next1 k1 k2) k3) k4
  obtain ⟨c0, c1', _, _, _⟩ := (A1.below k4 (by simp; omega)).two
  obtain ⟨c2', c3', _, _, _⟩ := (A3.below k4 (by simp)).two
  clear k1 k2 k3 k4 A1 A3
  go_wp2_with fail
  refine (c5 _ (tab_below ht (next0 B4 (below_alloc w4 _)))).mono ?_
  rintro e w5 ⟨rfl, k5⟩
  go_wp2_with fail
  go_ret
  exact ⟨rfl, next1 B4 k5⟩
end FracW
end Go.Proofs.YtlamemhfnglfeaaDoor
