/- The contracts of Valid, in the package and in the reference of layer 2, for all integers. No conditions. -/
import Derived.Test.YtlamemhfnglfeaaDoorFracB
namespace Go.Proofs.YtlamemhfnglfeaaDoor
open Go Go.RowKit
namespace FracD
open FracA FracM FracB

set_option maxHeartbeats 800000 in
theorem valid_any (n d : Int) (w : World) (ha0 : -9223372036854775808 ≤ n) (ha1 : n ≤ 9223372036854775807) (hb0 : -9223372036854775808 ≤ d) (hb1 : d ≤ 9223372036854775807) :
    Calls Tryd.prog 12 #[.agg #[.int .i64 n, .int .i64 d]] w fun e w' => e = .returned (.bool (vld n d)) ∧ Below w.heap.size w w' := by
  rw [vld_mk]
  generalize hm : mk n d = m
  have hM := make_any n d (w.alloc (.cells #[.int .i64 n, .int .i64 d] 23)) ha0 ha1 hb0 hb1
  rw [hm] at hM
  clear hm
  obtain ⟨x, y, z⟩ := m
  by_cases hz : z = 0
  · subst hz
    go_enter Tryd.func12, Tryd.ntmps12
    go_wp2_with fail
    refine hM.mono ?_
    rintro e w1 ⟨rfl, hb⟩
    have c0 : w1.cell? ⟨w.heap.size, 0, none⟩ = some (.int .i64 n) := (hb.cell (p := ⟨w.heap.size, 0, none⟩) (by simp)).trans (by go_simp)
    have c1 : w1.cell? ⟨w.heap.size, 1, none⟩ = some (.int .i64 d) := (hb.cell (p := ⟨w.heap.size, 1, none⟩) (by simp)).trans (by go_simp)
    have hs : w.heap.size < w1.heap.size := by have := hb.size; simp at this; omega
    go_wp2
    all_goals
      go_returns
      exact ⟨by simp [*], ((below_alloc w _).trans (hb.mono (by simp))).alloc (by omega) _⟩
  · have hz' : (z == 0) = false := by simpa using hz
    go_enter Tryd.func12, Tryd.ntmps12
    go_wp2_with fail
    refine hM.mono ?_
    rintro e w1 ⟨rfl, hb⟩
    have hs : w.heap.size < w1.heap.size := by have := hb.size; simp at this; omega
    go_wp2
    all_goals
      go_returns
      exact ⟨by simp [*], ((below_alloc w _).trans (hb.mono (by simp))).alloc (by omega) _⟩
end FracD
end Go.Proofs.YtlamemhfnglfeaaDoor
