/- FractionOrder's walk, whole: it returns true, for all fractions, where strconv's table of powers of ten is as laid. -/
import Derived.Test.YtandcmlmklpckaaDoorFracL4a
import Derived.Test.YtandcmlmklpckaaDoorFracL4b
import Derived.Test.YtandcmlmklpckaaDoorFracL4c
namespace Go.Proofs.YtandcmlmklpckaaDoor
open Go Go.RowKit
namespace FracL4
open Kit FracM FracN FracP
open FracB (fr)
open FracT (Tab tab_below)

set_option maxRecDepth 100000 in
set_option maxHeartbeats 3200000 in
theorem order (a b c d e f : Int) (w : World) (ha0 : -9223372036854775808 ≤ a) (ha1 : a ≤ 9223372036854775807) (hb0 : -9223372036854775808 ≤ b) (hb1 : b ≤ 9223372036854775807) (hc0 : -9223372036854775808 ≤ c) (hc1 : c ≤ 9223372036854775807) (hd0 : -9223372036854775808 ≤ d) (hd1 : d ≤ 9223372036854775807) (he0 : -9223372036854775808 ≤ e) (he1 : e ≤ 9223372036854775807) (hf0 : -9223372036854775808 ≤ f) (hf1 : f ≤ 9223372036854775807) (ht : Tab w) :
    Calls Tryd.prog 13 #[.agg #[.int .i64 a, .int .i64 b], .agg #[.int .i64 c, .int .i64 d], .agg #[.int .i64 e, .int .i64 f]] w fun e w' => e = .returned (.bool true) ∧ Below w.heap.size w w' := by
  obtain ⟨V1, h1⟩ : ∃ V, vld a b = V := ⟨_, rfl⟩
  obtain ⟨V2, h2⟩ : ∃ V, vld c d = V := ⟨_, rfl⟩
  obtain ⟨V3, h3⟩ : ∃ V, vld e f = V := ⟨_, rfl⟩
  have p1 := fun w2 => FracE.valid_any a b w2 ha0 ha1 hb0 hb1
  have p2 := fun w2 => FracE.valid_any c d w2 hc0 hc1 hd0 hd1
  have p3 := fun w2 => FracE.valid_any e f w2 he0 he1 hf0 hf1
  rw [h1] at p1
  rw [h2] at p2
  rw [h3] at p3
  have P1 := Lib.hid p1
  have P2 := Lib.hid p2
  have P3 := Lib.hid p3
  clear p1 p2 p3
  cases V1
  case false =>
    clear h1 h2 h3
    go_enter Tryd.func13, Tryd.ntmps13
    go_wp2_with fail
    refine (P1.out _).mono ?_
    rintro e w1 ⟨rfl, k1⟩
    have A := (((Has.new w 46 #[.int .i64 a, .int .i64 b]).alloc (.cells #[.int .i64 c, .int .i64 d] 46)).alloc (.cells #[.int .i64 e, .int .i64 f] 46)).below k1 (by simp <;> omega)
    have B := ((Has.new1 w (.cells #[.int .i64 a, .int .i64 b] 46) 46 #[.int .i64 c, .int .i64 d]).alloc (.cells #[.int .i64 e, .int .i64 f] 46)).below k1 (by simp <;> omega)
    have C := (Has.new2 w (.cells #[.int .i64 a, .int .i64 b] 46) (.cells #[.int .i64 c, .int .i64 d] 46) 46 #[.int .i64 e, .int .i64 f]).below k1 (by simp)
    have D := (((below_alloc w _).alloc (by simp) _).alloc (by simp <;> omega) _).trans (k1.mono (by simp <;> omega))
    clear k1
    obtain ⟨c1, c2, _, _, _⟩ := A.two
    obtain ⟨c3, c4, _, _, _⟩ := B.two
    obtain ⟨c5, c6, _, _, _⟩ := C.two
    go_wp2_with fail
    clear c1 c2 c3 c4 c5 c6
    refine (FracW.awake_any _ (tab_below ht D)).mono ?_
    rintro e w2 ⟨rfl, k2⟩
    replace A := A.step0 k2
    replace B := B.step0 k2
    replace C := C.step0 k2
    replace D := next0 D k2
    clear k2
    obtain ⟨c1, c2, _, _, _⟩ := A.two
    obtain ⟨c3, c4, _, _, _⟩ := B.two
    obtain ⟨c5, c6, _, _, _⟩ := C.two
    go_wp2_with fail
    go_ret
    exact ⟨rfl, D⟩
  case true =>
  cases V2
  case false =>
    clear h1 h2 h3
    go_enter Tryd.func13, Tryd.ntmps13
    go_wp2_with fail
    refine (P1.out _).mono ?_
    rintro e w1 ⟨rfl, k1⟩
    have A := (((Has.new w 46 #[.int .i64 a, .int .i64 b]).alloc (.cells #[.int .i64 c, .int .i64 d] 46)).alloc (.cells #[.int .i64 e, .int .i64 f] 46)).below k1 (by simp <;> omega)
    have B := ((Has.new1 w (.cells #[.int .i64 a, .int .i64 b] 46) 46 #[.int .i64 c, .int .i64 d]).alloc (.cells #[.int .i64 e, .int .i64 f] 46)).below k1 (by simp <;> omega)
    have C := (Has.new2 w (.cells #[.int .i64 a, .int .i64 b] 46) (.cells #[.int .i64 c, .int .i64 d] 46) 46 #[.int .i64 e, .int .i64 f]).below k1 (by simp)
    have D := (((below_alloc w _).alloc (by simp) _).alloc (by simp <;> omega) _).trans (k1.mono (by simp <;> omega))
    clear k1
    obtain ⟨c1, c2, _, _, _⟩ := A.two
    obtain ⟨c3, c4, _, _, _⟩ := B.two
    obtain ⟨c5, c6, _, _, _⟩ := C.two
    go_wp2_with fail
    clear c1 c2 c3 c4 c5 c6
    refine (P2.out _).mono ?_
    rintro e w2 ⟨rfl, k2⟩
    replace A := A.step0 k2
    replace B := B.step0 k2
    replace C := C.step0 k2
    replace D := next0 D k2
    clear k2
    obtain ⟨c1, c2, _, _, _⟩ := A.two
    obtain ⟨c3, c4, _, _, _⟩ := B.two
    obtain ⟨c5, c6, _, _, _⟩ := C.two
    go_wp2_with fail
    clear c1 c2 c3 c4 c5 c6
    refine (FracW.awake_any _ (tab_below ht D)).mono ?_
    rintro e w3 ⟨rfl, k3⟩
    replace A := A.step0 k3
    replace B := B.step0 k3
    replace C := C.step0 k3
    replace D := next0 D k3
    clear k3
    obtain ⟨c1, c2, _, _, _⟩ := A.two
    obtain ⟨c3, c4, _, _, _⟩ := B.two
    obtain ⟨c5, c6, _, _, _⟩ := C.two
    go_wp2_with fail
    go_ret
    exact ⟨rfl, D⟩
  case true =>
  cases V3
  case false =>
    clear h1 h2 h3
    go_enter Tryd.func13, Tryd.ntmps13
    go_wp2_with fail
    refine (P1.out _).mono ?_
    rintro e w1 ⟨rfl, k1⟩
    have A := (((Has.new w 46 #[.int .i64 a, .int .i64 b]).alloc (.cells #[.int .i64 c, .int .i64 d] 46)).alloc (.cells #[.int .i64 e, .int .i64 f] 46)).below k1 (by simp <;> omega)
    have B := ((Has.new1 w (.cells #[.int .i64 a, .int .i64 b] 46) 46 #[.int .i64 c, .int .i64 d]).alloc (.cells #[.int .i64 e, .int .i64 f] 46)).below k1 (by simp <;> omega)
    have C := (Has.new2 w (.cells #[.int .i64 a, .int .i64 b] 46) (.cells #[.int .i64 c, .int .i64 d] 46) 46 #[.int .i64 e, .int .i64 f]).below k1 (by simp)
    have D := (((below_alloc w _).alloc (by simp) _).alloc (by simp <;> omega) _).trans (k1.mono (by simp <;> omega))
    clear k1
    obtain ⟨c1, c2, _, _, _⟩ := A.two
    obtain ⟨c3, c4, _, _, _⟩ := B.two
    obtain ⟨c5, c6, _, _, _⟩ := C.two
    go_wp2_with fail
    clear c1 c2 c3 c4 c5 c6
    refine (P2.out _).mono ?_
    rintro e w2 ⟨rfl, k2⟩
    replace A := A.step0 k2
    replace B := B.step0 k2
    replace C := C.step0 k2
    replace D := next0 D k2
    clear k2
    obtain ⟨c1, c2, _, _, _⟩ := A.two
    obtain ⟨c3, c4, _, _, _⟩ := B.two
    obtain ⟨c5, c6, _, _, _⟩ := C.two
    go_wp2_with fail
    clear c1 c2 c3 c4 c5 c6
    refine (P3.out _).mono ?_
    rintro e w3 ⟨rfl, k3⟩
    replace A := A.step0 k3
    replace B := B.step0 k3
    replace C := C.step0 k3
    replace D := next0 D k3
    clear k3
    obtain ⟨c1, c2, _, _, _⟩ := A.two
    obtain ⟨c3, c4, _, _, _⟩ := B.two
    obtain ⟨c5, c6, _, _, _⟩ := C.two
    go_wp2_with fail
    clear c1 c2 c3 c4 c5 c6
    refine (FracW.awake_any _ (tab_below ht D)).mono ?_
    rintro e w4 ⟨rfl, k4⟩
    replace A := A.step0 k4
    replace B := B.step0 k4
    replace C := C.step0 k4
    replace D := next0 D k4
    clear k4
    obtain ⟨c1, c2, _, _, _⟩ := A.two
    obtain ⟨c3, c4, _, _, _⟩ := B.two
    obtain ⟨c5, c6, _, _, _⟩ := C.two
    go_wp2_with fail
    go_ret
    exact ⟨rfl, D⟩
  case true =>
    clear P1 P2 P3
    rcases cmp_in a b c d with hx | hx | hx
    · exact order_neg a b c d e f w h1 h2 h3 hx ht
    · obtain ⟨rfl, rfl⟩ := cmp_same h1 h2 hx
      exact order_zero a b e f w h1 h3 ht
    · exact order_pos a b c d e f w h1 h2 h3 hx ht
end FracL4
end Go.Proofs.YtandcmlmklpckaaDoor
