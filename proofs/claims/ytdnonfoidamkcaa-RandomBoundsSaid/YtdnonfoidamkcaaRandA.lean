/- The contracts of New and Next, of the code and of the reference: the generator's step and number. No conditions. -/
import Derived.Test.YtdnonfoidamkcaaKit
import Derived.Test.YtdnonfoidamkcaaRandM
namespace Go.Proofs.Ytdnonfoidamkcaa
open Go Go.RowKit
namespace RandA
open Kit RandM
theorem new_any (s : Int) (w : World) :
    Calls Try.prog 11 #[.int .u64 s] w fun e w' => e = .returned (.agg #[.int .u64 s]) ∧ Below w.heap.size w w' := by
  go_enter Try.func11, Try.ntmps11
  go_wp2
  exact bodyPost_ret (v := .agg #[.int .u64 s]) (by simp [results, Try.results11, go_sem]) rfl ⟨rfl, by first | exact below_alloc _ _ | exact (below_alloc _ _).setCell (by simp) _⟩
set_option maxHeartbeats 400000 in
theorem next_any (s : Int) (w : World) :
    Calls Try.prog 12 #[.agg #[.int .u64 s]] w fun e w' => e = .returned (.tuple #[.agg #[.int .u64 (stp s)], .int .u64 (mix s)]) ∧ Below w.heap.size w w' := by
  go_enter Try.func12, Try.ntmps12
  go_wp2
  exact bodyPost_ret (v := .tuple #[.agg #[.int .u64 (stp s)], .int .u64 (mix s)]) (by simp [results, Try.results12, go_sem]; exact ⟨rfl, rfl⟩) rfl ⟨rfl, (below_alloc _ _).alloc (by simp) _⟩
set_option maxHeartbeats 400000 in
theorem rnext_any (s : Int) (w : World) :
    Calls Try.prog 13 #[.agg #[.int .u64 s]] w fun e w' => e = .returned (.tuple #[.agg #[.int .u64 (stp s)], .int .u64 (mix s)]) ∧ Below w.heap.size w w' := by
  go_enter Try.func13, Try.ntmps13
  go_wp2
  exact bodyPost_ret (v := .tuple #[.agg #[.int .u64 (stp s)], .int .u64 (mix s)]) (by simp [results, Try.results13, go_sem]; exact ⟨rfl, rfl⟩) rfl ⟨rfl, (below_alloc _ _).alloc (by simp) _⟩

set_option maxHeartbeats 800000 in
theorem below_lo (s n : Int) (w : World) (h : n < 1) :
    Calls Try.prog 14 #[.agg #[.int .u64 s], .int .i64 n] w fun e w' => e = .returned (.tuple #[.agg #[.int .u64 s], .int .i64 0]) ∧ Below w.heap.size w w' := by
  go_enter Try.func14, Try.ntmps14
  go_wp2
  exact bodyPost_ret (v := .tuple #[.agg #[.int .u64 s], .int .i64 0]) (by simp [results, Try.results14, go_sem]) rfl ⟨rfl, (below_alloc _ _).alloc (by simp) _⟩
set_option maxHeartbeats 800000 in
theorem rbelow_lo (s n : Int) (w : World) (h : n < 1) :
    Calls Try.prog 15 #[.agg #[.int .u64 s], .int .i64 n] w fun e w' => e = .returned (.tuple #[.agg #[.int .u64 s], .int .i64 0]) ∧ Below w.heap.size w w' := by
  go_enter Try.func15, Try.ntmps15
  go_wp2
  exact bodyPost_ret (v := .tuple #[.agg #[.int .u64 s], .int .i64 0]) (by simp [results, Try.results15, go_sem]) rfl ⟨rfl, (below_alloc _ _).alloc (by simp) _⟩
end RandA
end Go.Proofs.Ytdnonfoidamkcaa
