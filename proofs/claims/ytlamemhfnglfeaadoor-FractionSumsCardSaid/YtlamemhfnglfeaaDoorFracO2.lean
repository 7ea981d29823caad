/- The contracts of the reference's Compare and of Min and Max, in the package and in the reference (layer 2), where the products fit. No other conditions. -/
import Derived.Test.YtlamemhfnglfeaaDoorFracO
namespace Go.Proofs.YtlamemhfnglfeaaDoor
open Go Go.RowKit
namespace FracO2
open Kit FracM FracN FracP

set_option maxHeartbeats 1600000 in
theorem refcmp_any (a b c d : Int) (w : World) (ha : -1073741824 ≤ a ∧ a ≤ 1073741824) (hb : -1073741824 ≤ b ∧ b ≤ 1073741824) (hc : -1073741824 ≤ c ∧ c ≤ 1073741824) (hd : -1073741824 ≤ d ∧ d ≤ 1073741824) :
    Calls Tryd.prog 25 #[.agg #[.int .i64 a, .int .i64 b], .agg #[.int .i64 c, .int .i64 d]] w fun e w' => e = .returned (.int .i64 (cmpF a b c d)) ∧ Below w.heap.size w w' := by
  have m1 := mul_in30 ha hd
  have m2 := mul_in30 hc hb
  have t1 : IntKind.i64.wrap (a * d) = a * d := IntWalk.i64_in _ ⟨by omega, by omega⟩
  have t2 : IntKind.i64.wrap (c * b) = c * b := IntWalk.i64_in _ ⟨by omega, by omega⟩
  have T1 := Lib.hid t1
  have T2 := Lib.hid t2
  have B := (below_alloc w (.cells #[.int .i64 a, .int .i64 b] 23)).alloc (by simp) (.cells #[.int .i64 c, .int .i64 d] 23)
  have HB := Lib.hid B
  clear B t1 t2
  obtain ⟨X, hX⟩ : ∃ X, cmpF a b c d = X := ⟨_, rfl⟩
  have hX2 : X = if a * d < c * b then -1 else if c * b < a * d then 1 else 0 := hX.symm
  rw [hX]
  clear hX
  rcases Int.lt_trichotomy (a * d) (c * b) with h | h | h
  · obtain rfl : X = -1 := by rw [hX2, if_pos h]
    clear hX2
    go_enter Tryd.func25, Tryd.ntmps25
    go_wp2_with fail
    have e3 := T1.out
    have e4 := T2.out
    go_quiet (fail)
    clear e3 e4
    go_wp2_with fail
    go_ret
    exact ⟨rfl, below_drewN HB.out _⟩
  · obtain rfl : X = 0 := by rw [hX2, if_neg (by omega), if_neg (by omega)]
    clear hX2
    have n1 : ¬ a * d < c * b := by omega
    have n2 : ¬ c * b < a * d := by omega
    have Hh := Lib.hid h
    clear h
    go_enter Tryd.func25, Tryd.ntmps25
    go_wp2_with fail
    have e3 := T1.out
    have e4 := T2.out
    go_quiet (fail)
    clear e3 e4
    go_wp2_with fail
    go_ret
    exact ⟨rfl, below_drewN HB.out _⟩
  · obtain rfl : X = 1 := by rw [hX2, if_neg (by omega), if_pos h]
    clear hX2
    go_enter Tryd.func25, Tryd.ntmps25
    go_wp2_with fail
    have e3 := T1.out
    have e4 := T2.out
    go_quiet (fail)
    clear e3 e4
    go_wp2_with fail
    go_ret
    exact ⟨rfl, below_drewN HB.out _⟩

/-- The smaller and the greater one. -/
def minF (a b c d : Int) : Int × Int := if c * b < a * d then (c, d) else (a, b)
def maxF (a b c d : Int) : Int × Int := if a * d < c * b then (c, d) else (a, b)

set_option maxHeartbeats 1600000 in
theorem min_any (a b c d : Int) (w : World) (ha : -1073741824 ≤ a ∧ a ≤ 1073741824) (hb : -1073741824 ≤ b ∧ b ≤ 1073741824) (hc : -1073741824 ≤ c ∧ c ≤ 1073741824) (hd : -1073741824 ≤ d ∧ d ≤ 1073741824) :
    Calls Tryd.prog 26 #[.agg #[.int .i64 a, .int .i64 b], .agg #[.int .i64 c, .int .i64 d]] w fun e w' => e = .returned (.agg #[.int .i64 (minF a b c d).1, .int .i64 (minF a b c d).2]) ∧ Below w.heap.size w w' := by
  have hq : cmpF c d a b < 0 ↔ c * b < a * d := by unfold cmpF; constructor <;> intro h <;> (try split at h) <;> (try split at h) <;> (try split) <;> (try split) <;> omega
  have hc0 := fun w2 : World => FracO.compare_any c d a b w2 hc hd ha hb
  unfold minF
  by_cases h : c * b < a * d
  · rw [if_pos h]
    have hx := hq.2 h
    clear hq h
    generalize cmpF c d a b = X at hc0 hx
    have HC := Lib.hid hc0
    clear hc0
    go_enter Tryd.func26, Tryd.ntmps26
    go_wp2_with fail
    refine (HC.out _).mono ?_
    rintro e w1 ⟨rfl, k1⟩
    have A := (((Has.new w 23 #[.int .i64 a, .int .i64 b]).alloc (.cells #[.int .i64 c, .int .i64 d] 23)).alloc (.cells #[.int .i64 0, .int .i64 0] 23)).below k1 (by simp <;> omega)
    have B := ((Has.new1 w (.cells #[.int .i64 a, .int .i64 b] 23) 23 #[.int .i64 c, .int .i64 d]).alloc (.cells #[.int .i64 0, .int .i64 0] 23)).below k1 (by simp <;> omega)
    have R := (Has.new2 w (.cells #[.int .i64 a, .int .i64 b] 23) (.cells #[.int .i64 c, .int .i64 d] 23) 23 #[.int .i64 0, .int .i64 0]).below k1 (by simp)
    have D := (((below_alloc w _).alloc (by simp) _).alloc (by simp <;> omega) _).trans (k1.mono (by simp <;> omega))
    clear k1
    obtain ⟨c1, c2, _, _, _⟩ := A.two
    obtain ⟨c3, c4, _, _, _⟩ := B.two
    obtain ⟨c5, c6, f5, f6, l1⟩ := R.two
    go_wp2_with fail
    have r0 := R.put0 (.int .i64 c) (.int .i64 d)
    have r1 := R.put1 (.int .i64 c) (.int .i64 d)
    refine bodyPost_ret (v := .agg #[.int .i64 c, .int .i64 d]) (by simp [results, Tryd.results26, go_sem, r0, r1]) rfl ?_
    exact ⟨rfl, by repeat (first | exact D | refine Below.setCell ?_ (by simp <;> omega) _)⟩
  · rw [if_neg h]
    have hx : ¬ (cmpF c d a b < 0) := fun h1 => h (hq.1 h1)
    clear hq h
    generalize cmpF c d a b = X at hc0 hx
    have HC := Lib.hid hc0
    clear hc0
    go_enter Tryd.func26, Tryd.ntmps26
    go_wp2_with fail
    refine (HC.out _).mono ?_
    rintro e w1 ⟨rfl, k1⟩
    have A := (((Has.new w 23 #[.int .i64 a, .int .i64 b]).alloc (.cells #[.int .i64 c, .int .i64 d] 23)).alloc (.cells #[.int .i64 0, .int .i64 0] 23)).below k1 (by simp <;> omega)
    have B := ((Has.new1 w (.cells #[.int .i64 a, .int .i64 b] 23) 23 #[.int .i64 c, .int .i64 d]).alloc (.cells #[.int .i64 0, .int .i64 0] 23)).below k1 (by simp <;> omega)
    have R := (Has.new2 w (.cells #[.int .i64 a, .int .i64 b] 23) (.cells #[.int .i64 c, .int .i64 d] 23) 23 #[.int .i64 0, .int .i64 0]).below k1 (by simp)
    have D := (((below_alloc w _).alloc (by simp) _).alloc (by simp <;> omega) _).trans (k1.mono (by simp <;> omega))
    clear k1
    obtain ⟨c1, c2, _, _, _⟩ := A.two
    obtain ⟨c3, c4, _, _, _⟩ := B.two
    obtain ⟨c5, c6, f5, f6, l1⟩ := R.two
    go_wp2_with fail
    have r0 := R.put0 (.int .i64 a) (.int .i64 b)
    have r1 := R.put1 (.int .i64 a) (.int .i64 b)
    refine bodyPost_ret (v := .agg #[.int .i64 a, .int .i64 b]) (by simp [results, Tryd.results26, go_sem, r0, r1]) rfl ?_
    exact ⟨rfl, by repeat (first | exact D | refine Below.setCell ?_ (by simp <;> omega) _)⟩
set_option maxHeartbeats 1600000 in
theorem refmin_any (a b c d : Int) (w : World) (ha : -1073741824 ≤ a ∧ a ≤ 1073741824) (hb : -1073741824 ≤ b ∧ b ≤ 1073741824) (hc : -1073741824 ≤ c ∧ c ≤ 1073741824) (hd : -1073741824 ≤ d ∧ d ≤ 1073741824) :
    Calls Tryd.prog 27 #[.agg #[.int .i64 a, .int .i64 b], .agg #[.int .i64 c, .int .i64 d]] w fun e w' => e = .returned (.agg #[.int .i64 (minF a b c d).1, .int .i64 (minF a b c d).2]) ∧ Below w.heap.size w w' := by
  have hq : 0 < cmpF a b c d ↔ c * b < a * d := by unfold cmpF; constructor <;> intro h <;> (try split at h) <;> (try split at h) <;> (try split) <;> (try split) <;> omega
  have hc0 := fun w2 : World => refcmp_any a b c d w2 ha hb hc hd
  unfold minF
  by_cases h : c * b < a * d
  · rw [if_pos h]
    have hx := hq.2 h
    clear hq h
    generalize cmpF a b c d = X at hc0 hx
    have HC := Lib.hid hc0
    clear hc0
    go_enter Tryd.func27, Tryd.ntmps27
    go_wp2_with fail
    refine (HC.out _).mono ?_
    rintro e w1 ⟨rfl, k1⟩
    have A := (((Has.new w 23 #[.int .i64 a, .int .i64 b]).alloc (.cells #[.int .i64 c, .int .i64 d] 23)).alloc (.cells #[.int .i64 0, .int .i64 0] 23)).below k1 (by simp <;> omega)
    have B := ((Has.new1 w (.cells #[.int .i64 a, .int .i64 b] 23) 23 #[.int .i64 c, .int .i64 d]).alloc (.cells #[.int .i64 0, .int .i64 0] 23)).below k1 (by simp <;> omega)
    have R := (Has.new2 w (.cells #[.int .i64 a, .int .i64 b] 23) (.cells #[.int .i64 c, .int .i64 d] 23) 23 #[.int .i64 0, .int .i64 0]).below k1 (by simp)
    have D := (((below_alloc w _).alloc (by simp) _).alloc (by simp <;> omega) _).trans (k1.mono (by simp <;> omega))
    clear k1
    obtain ⟨c1, c2, _, _, _⟩ := A.two
    obtain ⟨c3, c4, _, _, _⟩ := B.two
    obtain ⟨c5, c6, f5, f6, l1⟩ := R.two
    go_wp2_with fail
    have r0 := R.put0 (.int .i64 c) (.int .i64 d)
    have r1 := R.put1 (.int .i64 c) (.int .i64 d)
    refine bodyPost_ret (v := .agg #[.int .i64 c, .int .i64 d]) (by simp [results, Tryd.results27, go_sem, r0, r1]) rfl ?_
    exact ⟨rfl, by repeat (first | exact D | refine Below.setCell ?_ (by simp <;> omega) _)⟩
  · rw [if_neg h]
    have hx : ¬ (0 < cmpF a b c d) := fun h1 => h (hq.1 h1)
    clear hq h
    generalize cmpF a b c d = X at hc0 hx
    have HC := Lib.hid hc0
    clear hc0
    go_enter Tryd.func27, Tryd.ntmps27
    go_wp2_with fail
    refine (HC.out _).mono ?_
    rintro e w1 ⟨rfl, k1⟩
    have A := (((Has.new w 23 #[.int .i64 a, .int .i64 b]).alloc (.cells #[.int .i64 c, .int .i64 d] 23)).alloc (.cells #[.int .i64 0, .int .i64 0] 23)).below k1 (by simp <;> omega)
    have B := ((Has.new1 w (.cells #[.int .i64 a, .int .i64 b] 23) 23 #[.int .i64 c, .int .i64 d]).alloc (.cells #[.int .i64 0, .int .i64 0] 23)).below k1 (by simp <;> omega)
    have R := (Has.new2 w (.cells #[.int .i64 a, .int .i64 b] 23) (.cells #[.int .i64 c, .int .i64 d] 23) 23 #[.int .i64 0, .int .i64 0]).below k1 (by simp)
    have D := (((below_alloc w _).alloc (by simp) _).alloc (by simp <;> omega) _).trans (k1.mono (by simp <;> omega))
    clear k1
    obtain ⟨c1, c2, _, _, _⟩ := A.two
    obtain ⟨c3, c4, _, _, _⟩ := B.two
    obtain ⟨c5, c6, f5, f6, l1⟩ := R.two
    go_wp2_with fail
    have r0 := R.put0 (.int .i64 a) (.int .i64 b)
    have r1 := R.put1 (.int .i64 a) (.int .i64 b)
    refine bodyPost_ret (v := .agg #[.int .i64 a, .int .i64 b]) (by simp [results, Tryd.results27, go_sem, r0, r1]) rfl ?_
    exact ⟨rfl, by repeat (first | exact D | refine Below.setCell ?_ (by simp <;> omega) _)⟩
set_option maxHeartbeats 1600000 in
theorem max_any (a b c d : Int) (w : World) (ha : -1073741824 ≤ a ∧ a ≤ 1073741824) (hb : -1073741824 ≤ b ∧ b ≤ 1073741824) (hc : -1073741824 ≤ c ∧ c ≤ 1073741824) (hd : -1073741824 ≤ d ∧ d ≤ 1073741824) :
    Calls Tryd.prog 28 #[.agg #[.int .i64 a, .int .i64 b], .agg #[.int .i64 c, .int .i64 d]] w fun e w' => e = .returned (.agg #[.int .i64 (maxF a b c d).1, .int .i64 (maxF a b c d).2]) ∧ Below w.heap.size w w' := by
  have hq : 0 < cmpF c d a b ↔ a * d < c * b := by unfold cmpF; constructor <;> intro h <;> (try split at h) <;> (try split at h) <;> (try split) <;> (try split) <;> omega
  have hc0 := fun w2 : World => FracO.compare_any c d a b w2 hc hd ha hb
  unfold maxF
  by_cases h : a * d < c * b
  · rw [if_pos h]
    have hx := hq.2 h
    clear hq h
    generalize cmpF c d a b = X at hc0 hx
    have HC := Lib.hid hc0
    clear hc0
    go_enter Tryd.func28, Tryd.ntmps28
    go_wp2_with fail
    refine (HC.out _).mono ?_
    rintro e w1 ⟨rfl, k1⟩
    have A := (((Has.new w 23 #[.int .i64 a, .int .i64 b]).alloc (.cells #[.int .i64 c, .int .i64 d] 23)).alloc (.cells #[.int .i64 0, .int .i64 0] 23)).below k1 (by simp <;> omega)
    have B := ((Has.new1 w (.cells #[.int .i64 a, .int .i64 b] 23) 23 #[.int .i64 c, .int .i64 d]).alloc (.cells #[.int .i64 0, .int .i64 0] 23)).below k1 (by simp <;> omega)
    have R := (Has.new2 w (.cells #[.int .i64 a, .int .i64 b] 23) (.cells #[.int .i64 c, .int .i64 d] 23) 23 #[.int .i64 0, .int .i64 0]).below k1 (by simp)
    have D := (((below_alloc w _).alloc (by simp) _).alloc (by simp <;> omega) _).trans (k1.mono (by simp <;> omega))
    clear k1
    obtain ⟨c1, c2, _, _, _⟩ := A.two
    obtain ⟨c3, c4, _, _, _⟩ := B.two
    obtain ⟨c5, c6, f5, f6, l1⟩ := R.two
    go_wp2_with fail
    have r0 := R.put0 (.int .i64 c) (.int .i64 d)
    have r1 := R.put1 (.int .i64 c) (.int .i64 d)
    refine bodyPost_ret (v := .agg #[.int .i64 c, .int .i64 d]) (by simp [results, Tryd.results28, go_sem, r0, r1]) rfl ?_
    exact ⟨rfl, by repeat (first | exact D | refine Below.setCell ?_ (by simp <;> omega) _)⟩
  · rw [if_neg h]
    have hx : ¬ (0 < cmpF c d a b) := fun h1 => h (hq.1 h1)
    clear hq h
    generalize cmpF c d a b = X at hc0 hx
    have HC := Lib.hid hc0
    clear hc0
    go_enter Tryd.func28, Tryd.ntmps28
    go_wp2_with fail
    refine (HC.out _).mono ?_
    rintro e w1 ⟨rfl, k1⟩
    have A := (((Has.new w 23 #[.int .i64 a, .int .i64 b]).alloc (.cells #[.int .i64 c, .int .i64 d] 23)).alloc (.cells #[.int .i64 0, .int .i64 0] 23)).below k1 (by simp <;> omega)
    have B := ((Has.new1 w (.cells #[.int .i64 a, .int .i64 b] 23) 23 #[.int .i64 c, .int .i64 d]).alloc (.cells #[.int .i64 0, .int .i64 0] 23)).below k1 (by simp <;> omega)
    have R := (Has.new2 w (.cells #[.int .i64 a, .int .i64 b] 23) (.cells #[.int .i64 c, .int .i64 d] 23) 23 #[.int .i64 0, .int .i64 0]).below k1 (by simp)
    have D := (((below_alloc w _).alloc (by simp) _).alloc (by simp <;> omega) _).trans (k1.mono (by simp <;> omega))
    clear k1
    obtain ⟨c1, c2, _, _, _⟩ := A.two
    obtain ⟨c3, c4, _, _, _⟩ := B.two
    obtain ⟨c5, c6, f5, f6, l1⟩ := R.two
    go_wp2_with fail
    have r0 := R.put0 (.int .i64 a) (.int .i64 b)
    have r1 := R.put1 (.int .i64 a) (.int .i64 b)
    refine bodyPost_ret (v := .agg #[.int .i64 a, .int .i64 b]) (by simp [results, Tryd.results28, go_sem, r0, r1]) rfl ?_
    exact ⟨rfl, by repeat (first | exact D | refine Below.setCell ?_ (by simp <;> omega) _)⟩
set_option maxHeartbeats 1600000 in
theorem refmax_any (a b c d : Int) (w : World) (ha : -1073741824 ≤ a ∧ a ≤ 1073741824) (hb : -1073741824 ≤ b ∧ b ≤ 1073741824) (hc : -1073741824 ≤ c ∧ c ≤ 1073741824) (hd : -1073741824 ≤ d ∧ d ≤ 1073741824) :
    Calls Tryd.prog 29 #[.agg #[.int .i64 a, .int .i64 b], .agg #[.int .i64 c, .int .i64 d]] w fun e w' => e = .returned (.agg #[.int .i64 (maxF a b c d).1, .int .i64 (maxF a b c d).2]) ∧ Below w.heap.size w w' := by
  have hq : cmpF a b c d < 0 ↔ a * d < c * b := by unfold cmpF; constructor <;> intro h <;> (try split at h) <;> (try split at h) <;> (try split) <;> (try split) <;> omega
  have hc0 := fun w2 : World => refcmp_any a b c d w2 ha hb hc hd
  unfold maxF
  by_cases h : a * d < c * b
  · rw [if_pos h]
    have hx := hq.2 h
    clear hq h
    generalize cmpF a b c d = X at hc0 hx
    have HC := Lib.hid hc0
    clear hc0
    go_enter Tryd.func29, Tryd.ntmps29
    go_wp2_with fail
    refine (HC.out _).mono ?_
    rintro e w1 ⟨rfl, k1⟩
    have A := (((Has.new w 23 #[.int .i64 a, .int .i64 b]).alloc (.cells #[.int .i64 c, .int .i64 d] 23)).alloc (.cells #[.int .i64 0, .int .i64 0] 23)).below k1 (by simp <;> omega)
    have B := ((Has.new1 w (.cells #[.int .i64 a, .int .i64 b] 23) 23 #[.int .i64 c, .int .i64 d]).alloc (.cells #[.int .i64 0, .int .i64 0] 23)).below k1 (by simp <;> omega)
    have R := (Has.new2 w (.cells #[.int .i64 a, .int .i64 b] 23) (.cells #[.int .i64 c, .int .i64 d] 23) 23 #[.int .i64 0, .int .i64 0]).below k1 (by simp)
    have D := (((below_alloc w _).alloc (by simp) _).alloc (by simp <;> omega) _).trans (k1.mono (by simp <;> omega))
    clear k1
    obtain ⟨c1, c2, _, _, _⟩ := A.two
    obtain ⟨c3, c4, _, _, _⟩ := B.two
    obtain ⟨c5, c6, f5, f6, l1⟩ := R.two
    go_wp2_with fail
    have r0 := R.put0 (.int .i64 c) (.int .i64 d)
    have r1 := R.put1 (.int .i64 c) (.int .i64 d)
    refine bodyPost_ret (v := .agg #[.int .i64 c, .int .i64 d]) (by simp [results, Tryd.results29, go_sem, r0, r1]) rfl ?_
    exact ⟨rfl, by repeat (first | exact D | refine Below.setCell ?_ (by simp <;> omega) _)⟩
  · rw [if_neg h]
    have hx : ¬ (cmpF a b c d < 0) := fun h1 => h (hq.1 h1)
    clear hq h
    generalize cmpF a b c d = X at hc0 hx
    have HC := Lib.hid hc0
    clear hc0
    go_enter Tryd.func29, Tryd.ntmps29
    go_wp2_with fail
    refine (HC.out _).mono ?_
    rintro e w1 ⟨rfl, k1⟩
    have A := (((Has.new w 23 #[.int .i64 a, .int .i64 b]).alloc (.cells #[.int .i64 c, .int .i64 d] 23)).alloc (.cells #[.int .i64 0, .int .i64 0] 23)).below k1 (by simp <;> omega)
    have B := ((Has.new1 w (.cells #[.int .i64 a, .int .i64 b] 23) 23 #[.int .i64 c, .int .i64 d]).alloc (.cells #[.int .i64 0, .int .i64 0] 23)).below k1 (by simp <;> omega)
    have R := (Has.new2 w (.cells #[.int .i64 a, .int .i64 b] 23) (.cells #[.int .i64 c, .int .i64 d] 23) 23 #[.int .i64 0, .int .i64 0]).below k1 (by simp)
    have D := (((below_alloc w _).alloc (by simp) _).alloc (by simp <;> omega) _).trans (k1.mono (by simp <;> omega))
    clear k1
    obtain ⟨c1, c2, _, _, _⟩ := A.two
    obtain ⟨c3, c4, _, _, _⟩ := B.two
    obtain ⟨c5, c6, f5, f6, l1⟩ := R.two
    go_wp2_with fail
    have r0 := R.put0 (.int .i64 a) (.int .i64 b)
    have r1 := R.put1 (.int .i64 a) (.int .i64 b)
    refine bodyPost_ret (v := .agg #[.int .i64 a, .int .i64 b]) (by simp [results, Tryd.results29, go_sem, r0, r1]) rfl ?_
    exact ⟨rfl, by repeat (first | exact D | refine Below.setCell ?_ (by simp <;> omega) _)⟩
end FracO2
end Go.Proofs.YtlamemhfnglfeaaDoor
