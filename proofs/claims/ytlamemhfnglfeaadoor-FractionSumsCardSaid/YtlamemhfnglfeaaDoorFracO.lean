/- The contract of fraction.Compare where the products fit. No other conditions. -/
import Derived.Test.YtlamemhfnglfeaaDoorKit
import Derived.Test.YtlamemhfnglfeaaDoorFracP
import Derived.Test.YtlamemhfnglfeaaDoorShelf
namespace Go.Proofs.YtlamemhfnglfeaaDoor
open Go Go.RowKit
namespace FracO
open Kit FracM FracN FracP

theorem cmp_int (x y : Int) (w : World) : Calls Tryd.prog 45 #[.int .i64 x, .int .i64 y] w fun e w' => e = .returned (.int .i64 (Lib.compareInt x y)) ∧ w = w' :=
  (Tryd.cmp_Compare_int x y w).mono fun _ _ ⟨he, hw⟩ => ⟨he, hw.symm⟩
theorem compareInt_cmp (a b c d : Int) : Lib.compareInt (a * d) (c * b) = cmpF a b c d := rfl

set_option maxHeartbeats 1600000 in
/-- Compare, for numerators and denominators within 2 to the 30. -/
theorem compare_any (a b c d : Int) (w : World) (ha : -1073741824 ≤ a ∧ a ≤ 1073741824) (hb : -1073741824 ≤ b ∧ b ≤ 1073741824) (hc : -1073741824 ≤ c ∧ c ≤ 1073741824) (hd : -1073741824 ≤ d ∧ d ≤ 1073741824) :
    Calls Tryd.prog 24 #[.agg #[.int .i64 a, .int .i64 b], .agg #[.int .i64 c, .int .i64 d]] w fun e w' => e = .returned (.int .i64 (cmpF a b c d)) ∧ Below w.heap.size w w' := by
  have m1 := mul_in30 ha hd
  have m2 := mul_in30 hc hb
  have B := (below_alloc w (.cells #[.int .i64 a, .int .i64 b] 23)).alloc (by simp) (.cells #[.int .i64 c, .int .i64 d] 23)
  have HB := Lib.hid B
  clear B
  by_cases e1 : a = c
  · by_cases e2 : b = d
    · subst e1 e2
      have e0 : cmpF a b a b = 0 := by simp [cmpF]
      rw [e0]
      clear e0
      go_enter Tryd.func24, Tryd.ntmps24
      go_wp2_with fail
      go_ret
      exact ⟨rfl, HB.out⟩
    · subst e1
      go_enter Tryd.func24, Tryd.ntmps24
      go_wp2_with fail
      refine (cmp_int _ _ _).mono ?_
      rintro e w1 ⟨rfl, rfl⟩
      go_wp2_with fail
      go_ret
      exact ⟨rfl, HB.out⟩
  · go_enter Tryd.func24, Tryd.ntmps24
    go_wp2_with fail
    refine (cmp_int _ _ _).mono ?_
    rintro e w1 ⟨rfl, rfl⟩
    go_wp2_with fail
    go_ret
    exact ⟨rfl, HB.out⟩
end FracO
end Go.Proofs.YtlamemhfnglfeaaDoor
