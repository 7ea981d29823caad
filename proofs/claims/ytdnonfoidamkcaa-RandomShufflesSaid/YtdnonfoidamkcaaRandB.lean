/- The contracts of Below (n at least 1), of the code and of the reference. -/
import Derived.Test.YtdnonfoidamkcaaRandA
import Derived.RegionTactic
namespace Go.Proofs.Ytdnonfoidamkcaa
open Go Go.RowKit
namespace RandB
open Kit RandM RandA
theorem next2 {w w2 : World} {o p : Obj} (k : Below ((w.alloc o).alloc p).heap.size ((w.alloc o).alloc p) w2) : Below w.heap.size w w2 :=
  ((below_alloc w o).alloc (by simp) p).trans (k.mono (by simp; omega))
set_option maxHeartbeats 1600000 in
theorem below_hi (s n : Int) (w : World) (h : 1 ≤ n) (h' : n ≤ 9223372036854775807) :
    Calls Try.prog 14 #[.agg #[.int .u64 s], .int .i64 n] w fun e w' => e = .returned (.tuple #[.agg #[.int .u64 (stp s)], .int .i64 (mix s % n)]) ∧ Below w.heap.size w w' := by
  have hm := mod_in s n h
  have hx := mix_in s
  have P := Lib.hid (fun w => next_any s w)
  generalize stp s = s' at *
  generalize mix s = x at *
  go_enter Try.func14, Try.ntmps14
  go_wp2_with fail
  refine (P.out _).mono ?_
  rintro e w1 ⟨rfl, k1⟩
  have A := Has.below ((Has.new w 24 #[.int .u64 s]).alloc (.cells #[.int .u64 0] 24)) k1 (by simp; omega)
  have R := Has.below (Has.new1 w (.cells #[.int .u64 s] 24) 24 #[.int .u64 0]) k1 (by simp)
  have D := Lib.hid (next2 k1)
  clear k1
  have a1 := A.cell 0
  have a2 := A.free 0
  have a3 := A.lt
  have r1 := R.cell 0
  have r2 := R.free 0
  have r3 := R.lt
  clear A R
  go_wp2_with fail
  go_region
  all_goals
    go_wp2_with fail
    exact bodyPost_ret (v := .tuple #[.agg #[.int .u64 s'], .int .i64 (x % n)]) (by simp [results, Try.results14, go_sem, r1]) rfl ⟨rfl, ((D.out.setCell (by simp) _).setCell (by simp) _).drew⟩
set_option maxHeartbeats 1600000 in
theorem rbelow_hi (s n : Int) (w : World) (h : 1 ≤ n) (h' : n ≤ 9223372036854775807) :
    Calls Try.prog 15 #[.agg #[.int .u64 s], .int .i64 n] w fun e w' => e = .returned (.tuple #[.agg #[.int .u64 (stp s)], .int .i64 (mix s % n)]) ∧ Below w.heap.size w w' := by
  have hm := mod_in s n h
  have hx := mix_in s
  have P := Lib.hid (fun w => rnext_any s w)
  generalize stp s = s' at *
  generalize mix s = x at *
  go_enter Try.func15, Try.ntmps15
  go_wp2_with fail
  refine (P.out _).mono ?_
  rintro e w1 ⟨rfl, k1⟩
  have R := Has.below (Has.new1 w (.cells #[.int .u64 s] 24) 24 #[.int .u64 0]) k1 (by simp)
  have D := Lib.hid (next2 k1)
  clear k1
  have r1 := R.cell 0
  have r2 := R.free 0
  have r3 := R.lt
  clear R
  go_wp2_with fail
  go_region
  all_goals
    go_wp2_with fail
    exact bodyPost_ret (v := .tuple #[.agg #[.int .u64 s'], .int .i64 (x % n)]) (by simp [results, Try.results15, go_sem, r1, r3]) rfl ⟨rfl, ((D.out.setCell (by simp) _).alloc (by have := D.out.size; simp; omega) _).drew⟩
end RandB
end Go.Proofs.Ytdnonfoidamkcaa
