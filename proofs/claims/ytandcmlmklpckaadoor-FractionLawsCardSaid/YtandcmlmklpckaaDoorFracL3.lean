/- FractionLaws's walk: it returns true, for all fractions, where strconv's table of powers of ten is as laid. -/
import Derived.Test.YtandcmlmklpckaaDoorKit
import Derived.Test.YtandcmlmklpckaaDoorFracF
import Derived.Test.YtandcmlmklpckaaDoorFracN
import Derived.Test.YtandcmlmklpckaaDoorFracW
namespace Go.Proofs.YtandcmlmklpckaaDoor
open Go Go.RowKit
namespace FracL3
open Kit FracM FracN
open FracB (fr)
open FracT (Tab tab_below)

theorem in64 {n d : Int} (h : vld n d = true) : (-9223372036854775808 ≤ n ∧ n ≤ 9223372036854775807) ∧ -9223372036854775808 ≤ d ∧ d ≤ 9223372036854775807 := by have := vld_in h; omega
theorem add_at {a b c d : Int} (h1 : vld a b = true) (h2 : vld c d = true) (w : World) : Calls Tryd.prog 54 #[.agg #[.int .i64 a, .int .i64 b], .agg #[.int .i64 c, .int .i64 d]] w fun e w' => e = .returned (fr (addF a b c d)) ∧ Below w.heap.size w w' :=
  FracF.add_any a b c d w (in64 h1).1.1 (in64 h1).1.2 (in64 h1).2.1 (in64 h1).2.2 (in64 h2).1.1 (in64 h2).1.2 (in64 h2).2.1 (in64 h2).2.2
theorem sub_at {a b c d : Int} (h1 : vld a b = true) (h2 : vld c d = true) (w : World) : Calls Tryd.prog 55 #[.agg #[.int .i64 a, .int .i64 b], .agg #[.int .i64 c, .int .i64 d]] w fun e w' => e = .returned (fr (subF a b c d)) ∧ Below w.heap.size w w' :=
  FracF.sub_any a b c d w (in64 h1).1.1 (in64 h1).1.2 (in64 h1).2.1 (in64 h1).2.2 (in64 h2).1.1 (in64 h2).1.2 (in64 h2).2.1 (in64 h2).2.2
theorem mul_at {a b c d : Int} (h1 : vld a b = true) (h2 : vld c d = true) (w : World) : Calls Tryd.prog 56 #[.agg #[.int .i64 a, .int .i64 b], .agg #[.int .i64 c, .int .i64 d]] w fun e w' => e = .returned (fr (mulF a b c d)) ∧ Below w.heap.size w w' :=
  FracF.mul_any a b c d w (in64 h1).1.1 (in64 h1).1.2 (in64 h1).2.1 (in64 h1).2.2 (in64 h2).1.1 (in64 h2).1.2 (in64 h2).2.1 (in64 h2).2.2
theorem div_at {a b c d : Int} (h1 : vld a b = true) (h2 : vld c d = true) (w : World) : Calls Tryd.prog 57 #[.agg #[.int .i64 a, .int .i64 b], .agg #[.int .i64 c, .int .i64 d]] w fun e w' => e = .returned (fr (divF a b c d)) ∧ Below w.heap.size w w' :=
  FracF.div_any a b c d w (in64 h1).1.1 (in64 h1).1.2 (in64 h1).2.1 (in64 h1).2.2 (in64 h2).1.1 (in64 h2).1.2 (in64 h2).2.1 (in64 h2).2.2
theorem add_vld {a b c d : Int} (h1 : vld a b = true) (h2 : vld c d = true) (h : (addF a b c d).2.2 = 0) : vld (addF a b c d).1 (addF a b c d).2.1 = true := by rw [addF_ok h1 h2] at h ⊢; exact (mk_vld h).1
theorem mul_vld {a b c d : Int} (h1 : vld a b = true) (h2 : vld c d = true) (h : (mulF a b c d).2.2 = 0) : vld (mulF a b c d).1 (mulF a b c d).2.1 = true := by rw [mulF_ok h1 h2] at h ⊢; exact (mk_vld h).1

set_option maxRecDepth 100000 in
set_option maxHeartbeats 6400000 in
theorem distributes_any (a b c d e f : Int) (w : World) (h1 : vld a b = true) (h2 : vld c d = true) (h3 : vld e f = true) :
    Calls Tryd.prog 62 #[.agg #[.int .i64 a, .int .i64 b], .agg #[.int .i64 c, .int .i64 d], .agg #[.int .i64 e, .int .i64 f]] w fun e w' => e = .returned (.bool true) ∧ Below w.heap.size w w' := by
  have q1 := fun w2 => add_at h1 h2 w2
  have q3 := fun w2 => mul_at h1 h3 w2
  have q4 := fun w2 => mul_at h2 h3 w2
  have vs := add_vld h1 h2
  have vx := mul_vld h1 h3
  have vy := mul_vld h2 h3
  have dis := fun hs => distrib h1 h2 h3 hs
  generalize addF a b c d = s at q1 vs dis
  generalize mulF a b e f = x at q3 vx dis
  generalize mulF c d e f = y at q4 vy dis
  obtain ⟨s1, s2, sz⟩ := s
  obtain ⟨x1, x2, xz⟩ := x
  obtain ⟨y1, y2, yz⟩ := y
  have Q1 := Lib.hid q1
  have Q3 := Lib.hid q3
  have Q4 := Lib.hid q4
  clear q1 q3 q4
  by_cases hs : sz = 0
  case neg =>
    have hs' : (sz == 0) = false := by simpa using hs
    have hs'' : (sz != 0) = true := by simpa using hs
    have Vs := Lib.hid vs
    have Vx := Lib.hid vx
    have Vy := Lib.hid vy
    have Ds := Lib.hid dis
    clear vs vx vy dis hs
    go_enter Tryd.func62, Tryd.ntmps62
    go_wp2_with fail
    refine (Q1.out _).mono ?_
    rintro e w1 ⟨rfl, k1⟩
    have A := (((Has.new w 46 #[.int .i64 a, .int .i64 b]).alloc (.cells #[.int .i64 c, .int .i64 d] 46)).alloc (.cells #[.int .i64 e, .int .i64 f] 46)).below k1 (by simp <;> omega)
    have B := ((Has.new1 w (.cells #[.int .i64 a, .int .i64 b] 46) 46 #[.int .i64 c, .int .i64 d]).alloc (.cells #[.int .i64 e, .int .i64 f] 46)).below k1 (by simp <;> omega)
    have C := (Has.new2 w (.cells #[.int .i64 a, .int .i64 b] 46) (.cells #[.int .i64 c, .int .i64 d] 46) 46 #[.int .i64 e, .int .i64 f]).below k1 (by simp)
    have D := (((below_alloc w _).alloc (by simp) _).alloc (by simp <;> omega) _).trans (k1.mono (by simp <;> omega))
    clear k1
    obtain ⟨c1, c2, _, _, _⟩ := A.two
    obtain ⟨c3, c4, _, _, _⟩ := B.two
    obtain ⟨c5, c6, _, _, _⟩ := C.two
    go_wp2_with fail
    go_ret
    exact ⟨rfl, next0 D (below_alloc _ _)⟩
  case pos =>
    subst hs
    have vs' := vs rfl
    have q2 := fun w2 => mul_at vs' h3 w2
    have dis' := dis rfl
    clear vs dis
    generalize hm : mulF s1 s2 e f = l at q2
    have hm' : mulF s1 s2 e f = l := hm
    obtain ⟨l1, l2, lz⟩ := l
    have Q2 := Lib.hid q2
    clear q2 hm
    by_cases hl : lz = 0
    case neg =>
      have hl' : (lz == 0) = false := by simpa using hl
      have hl'' : (lz != 0) = true := by simpa using hl
      clear vx vy dis' hm' hl
      go_enter Tryd.func62, Tryd.ntmps62
      go_wp2_with fail
      refine (Q1.out _).mono ?_
      rintro e w1 ⟨rfl, k1⟩
      have A := (((Has.new w 46 #[.int .i64 a, .int .i64 b]).alloc (.cells #[.int .i64 c, .int .i64 d] 46)).alloc (.cells #[.int .i64 e, .int .i64 f] 46)).below k1 (by simp <;> omega)
      have B := ((Has.new1 w (.cells #[.int .i64 a, .int .i64 b] 46) 46 #[.int .i64 c, .int .i64 d]).alloc (.cells #[.int .i64 e, .int .i64 f] 46)).below k1 (by simp <;> omega)
      have C := (Has.new2 w (.cells #[.int .i64 a, .int .i64 b] 46) (.cells #[.int .i64 c, .int .i64 d] 46) 46 #[.int .i64 e, .int .i64 f]).below k1 (by simp)
      have D := (((below_alloc w _).alloc (by simp) _).alloc (by simp <;> omega) _).trans (k1.mono (by simp <;> omega))
      clear k1
      obtain ⟨c1, c2, _, _, _⟩ := A.two
      obtain ⟨c3, c4, _, _, _⟩ := B.two
      obtain ⟨c5, c6, _, _, _⟩ := C.two
      go_wp2_with fail
      clear c1 c2 c3 c4 c5 c6
      refine (Q2.out _).mono ?_
      rintro e w2 ⟨rfl, k2⟩
      replace A := A.step k2
      replace B := B.step k2
      replace C := C.step k2
      have R1 := Has.made k2
      replace D := next1 D k2
      clear k2
      obtain ⟨c1, c2, _, _, _⟩ := A.two
      obtain ⟨c3, c4, _, _, _⟩ := B.two
      obtain ⟨c5, c6, _, _, _⟩ := C.two
      obtain ⟨c7, c8, _, _, _⟩ := R1.two
      go_wp2_with fail
      clear c1 c2 c3 c4 c5 c6 c7 c8
      refine (Q3.out _).mono ?_
      rintro e w3 ⟨rfl, k3⟩
      replace A := A.step k3
      replace B := B.step k3
      replace C := C.step k3
      replace R1 := R1.step k3
      have R2 := Has.made k3
      replace D := next1 D k3
      clear k3
      obtain ⟨c1, c2, _, _, _⟩ := A.two
      obtain ⟨c3, c4, _, _, _⟩ := B.two
      obtain ⟨c5, c6, _, _, _⟩ := C.two
      obtain ⟨c7, c8, _, _, _⟩ := R1.two
      obtain ⟨c9, c10, _, _, _⟩ := R2.two
      go_wp2_with fail
      clear c1 c2 c3 c4 c5 c6 c7 c8 c9 c10
      refine (Q4.out _).mono ?_
      rintro e w4 ⟨rfl, k4⟩
      replace A := A.step k4
      replace B := B.step k4
      replace C := C.step k4
      replace R1 := R1.step k4
      replace R2 := R2.step k4
      have R3 := Has.made k4
      replace D := next1 D k4
      clear k4
      obtain ⟨c1, c2, _, _, _⟩ := A.two
      obtain ⟨c3, c4, _, _, _⟩ := B.two
      obtain ⟨c5, c6, _, _, _⟩ := C.two
      obtain ⟨c7, c8, _, _, _⟩ := R1.two
      obtain ⟨c9, c10, _, _, _⟩ := R2.two
      obtain ⟨c11, c12, _, _, _⟩ := R3.two
      go_wp2_with fail
      go_ret
      exact ⟨rfl, next0 D (below_alloc _ _)⟩
    case pos =>
      subst hl
      by_cases hx : xz = 0
      case neg =>
        have hx' : (xz == 0) = false := by simpa using hx
        have hx'' : (xz != 0) = true := by simpa using hx
        clear vx vy dis' hm' hx
        go_enter Tryd.func62, Tryd.ntmps62
        go_wp2_with fail
        refine (Q1.out _).mono ?_
        rintro e w1 ⟨rfl, k1⟩
        have A := (((Has.new w 46 #[.int .i64 a, .int .i64 b]).alloc (.cells #[.int .i64 c, .int .i64 d] 46)).alloc (.cells #[.int .i64 e, .int .i64 f] 46)).below k1 (by simp <;> omega)
        have B := ((Has.new1 w (.cells #[.int .i64 a, .int .i64 b] 46) 46 #[.int .i64 c, .int .i64 d]).alloc (.cells #[.int .i64 e, .int .i64 f] 46)).below k1 (by simp <;> omega)
        have C := (Has.new2 w (.cells #[.int .i64 a, .int .i64 b] 46) (.cells #[.int .i64 c, .int .i64 d] 46) 46 #[.int .i64 e, .int .i64 f]).below k1 (by simp)
        have D := (((below_alloc w _).alloc (by simp) _).alloc (by simp <;> omega) _).trans (k1.mono (by simp <;> omega))
        clear k1
        obtain ⟨c1, c2, _, _, _⟩ := A.two
        obtain ⟨c3, c4, _, _, _⟩ := B.two
        obtain ⟨c5, c6, _, _, _⟩ := C.two
        go_wp2_with fail
        clear c1 c2 c3 c4 c5 c6
        refine (Q2.out _).mono ?_
        rintro e w2 ⟨rfl, k2⟩
        replace A := A.step k2
        replace B := B.step k2
        replace C := C.step k2
        have R1 := Has.made k2
        replace D := next1 D k2
        clear k2
        obtain ⟨c1, c2, _, _, _⟩ := A.two
        obtain ⟨c3, c4, _, _, _⟩ := B.two
        obtain ⟨c5, c6, _, _, _⟩ := C.two
        obtain ⟨c7, c8, _, _, _⟩ := R1.two
        go_wp2_with fail
        clear c1 c2 c3 c4 c5 c6 c7 c8
        refine (Q3.out _).mono ?_
        rintro e w3 ⟨rfl, k3⟩
        replace A := A.step k3
        replace B := B.step k3
        replace C := C.step k3
        replace R1 := R1.step k3
        have R2 := Has.made k3
        replace D := next1 D k3
        clear k3
        obtain ⟨c1, c2, _, _, _⟩ := A.two
        obtain ⟨c3, c4, _, _, _⟩ := B.two
        obtain ⟨c5, c6, _, _, _⟩ := C.two
        obtain ⟨c7, c8, _, _, _⟩ := R1.two
        obtain ⟨c9, c10, _, _, _⟩ := R2.two
        go_wp2_with fail
        clear c1 c2 c3 c4 c5 c6 c7 c8 c9 c10
        refine (Q4.out _).mono ?_
        rintro e w4 ⟨rfl, k4⟩
        replace A := A.step k4
        replace B := B.step k4
        replace C := C.step k4
        replace R1 := R1.step k4
        replace R2 := R2.step k4
        have R3 := Has.made k4
        replace D := next1 D k4
        clear k4
        obtain ⟨c1, c2, _, _, _⟩ := A.two
        obtain ⟨c3, c4, _, _, _⟩ := B.two
        obtain ⟨c5, c6, _, _, _⟩ := C.two
        obtain ⟨c7, c8, _, _, _⟩ := R1.two
        obtain ⟨c9, c10, _, _, _⟩ := R2.two
        obtain ⟨c11, c12, _, _, _⟩ := R3.two
        go_wp2_with fail
        go_ret
        exact ⟨rfl, next0 D (below_alloc _ _)⟩
      case pos =>
        subst hx
        by_cases hy : yz = 0
        case neg =>
          have hy' : (yz == 0) = false := by simpa using hy
          have hy'' : (yz != 0) = true := by simpa using hy
          clear vx vy dis' hm' hy
          go_enter Tryd.func62, Tryd.ntmps62
          go_wp2_with fail
          refine (Q1.out _).mono ?_
          rintro e w1 ⟨rfl, k1⟩
          have A := (((Has.new w 46 #[.int .i64 a, .int .i64 b]).alloc (.cells #[.int .i64 c, .int .i64 d] 46)).alloc (.cells #[.int .i64 e, .int .i64 f] 46)).below k1 (by simp <;> omega)
          have B := ((Has.new1 w (.cells #[.int .i64 a, .int .i64 b] 46) 46 #[.int .i64 c, .int .i64 d]).alloc (.cells #[.int .i64 e, .int .i64 f] 46)).below k1 (by simp <;> omega)
          have C := (Has.new2 w (.cells #[.int .i64 a, .int .i64 b] 46) (.cells #[.int .i64 c, .int .i64 d] 46) 46 #[.int .i64 e, .int .i64 f]).below k1 (by simp)
          have D := (((below_alloc w _).alloc (by simp) _).alloc (by simp <;> omega) _).trans (k1.mono (by simp <;> omega))
          clear k1
          obtain ⟨c1, c2, _, _, _⟩ := A.two
          obtain ⟨c3, c4, _, _, _⟩ := B.two
          obtain ⟨c5, c6, _, _, _⟩ := C.two
          go_wp2_with fail
          clear c1 c2 c3 c4 c5 c6
          refine (Q2.out _).mono ?_
          rintro e w2 ⟨rfl, k2⟩
          replace A := A.step k2
          replace B := B.step k2
          replace C := C.step k2
          have R1 := Has.made k2
          replace D := next1 D k2
          clear k2
          obtain ⟨c1, c2, _, _, _⟩ := A.two
          obtain ⟨c3, c4, _, _, _⟩ := B.two
          obtain ⟨c5, c6, _, _, _⟩ := C.two
          obtain ⟨c7, c8, _, _, _⟩ := R1.two
          go_wp2_with fail
          clear c1 c2 c3 c4 c5 c6 c7 c8
          refine (Q3.out _).mono ?_
          rintro e w3 ⟨rfl, k3⟩
          replace A := A.step k3
          replace B := B.step k3
          replace C := C.step k3
          replace R1 := R1.step k3
          have R2 := Has.made k3
          replace D := next1 D k3
          clear k3
          obtain ⟨c1, c2, _, _, _⟩ := A.two
          obtain ⟨c3, c4, _, _, _⟩ := B.two
          obtain ⟨c5, c6, _, _, _⟩ := C.two
          obtain ⟨c7, c8, _, _, _⟩ := R1.two
          obtain ⟨c9, c10, _, _, _⟩ := R2.two
          go_wp2_with fail
          clear c1 c2 c3 c4 c5 c6 c7 c8 c9 c10
          refine (Q4.out _).mono ?_
          rintro e w4 ⟨rfl, k4⟩
          replace A := A.step k4
          replace B := B.step k4
          replace C := C.step k4
          replace R1 := R1.step k4
          replace R2 := R2.step k4
          have R3 := Has.made k4
          replace D := next1 D k4
          clear k4
          obtain ⟨c1, c2, _, _, _⟩ := A.two
          obtain ⟨c3, c4, _, _, _⟩ := B.two
          obtain ⟨c5, c6, _, _, _⟩ := C.two
          obtain ⟨c7, c8, _, _, _⟩ := R1.two
          obtain ⟨c9, c10, _, _, _⟩ := R2.two
          obtain ⟨c11, c12, _, _, _⟩ := R3.two
          go_wp2_with fail
          go_ret
          exact ⟨rfl, next0 D (below_alloc _ _)⟩
        case pos =>
          subst hy
          have e5 := fun w2 => add_at (vx rfl) (vy rfl) w2
          have e6 : addF x1 x2 y1 y2 = (l1, l2, 0) := (dis' rfl rfl).trans hm'
          rw [e6] at e5
          have Q5 := Lib.hid e5
          clear vx vy dis' hm' e6 e5
          go_enter Tryd.func62, Tryd.ntmps62
          go_wp2_with fail
          refine (Q1.out _).mono ?_
          rintro e w1 ⟨rfl, k1⟩
          have A := (((Has.new w 46 #[.int .i64 a, .int .i64 b]).alloc (.cells #[.int .i64 c, .int .i64 d] 46)).alloc (.cells #[.int .i64 e, .int .i64 f] 46)).below k1 (by simp <;> omega)
          have B := ((Has.new1 w (.cells #[.int .i64 a, .int .i64 b] 46) 46 #[.int .i64 c, .int .i64 d]).alloc (.cells #[.int .i64 e, .int .i64 f] 46)).below k1 (by simp <;> omega)
          have C := (Has.new2 w (.cells #[.int .i64 a, .int .i64 b] 46) (.cells #[.int .i64 c, .int .i64 d] 46) 46 #[.int .i64 e, .int .i64 f]).below k1 (by simp)
          have D := (((below_alloc w _).alloc (by simp) _).alloc (by simp <;> omega) _).trans (k1.mono (by simp <;> omega))
          clear k1
          obtain ⟨c1, c2, _, _, _⟩ := A.two
          obtain ⟨c3, c4, _, _, _⟩ := B.two
          obtain ⟨c5, c6, _, _, _⟩ := C.two
          go_wp2_with fail
          clear c1 c2 c3 c4 c5 c6
          refine (Q2.out _).mono ?_
          rintro e w2 ⟨rfl, k2⟩
          replace A := A.step k2
          replace B := B.step k2
          replace C := C.step k2
          have R1 := Has.made k2
          replace D := next1 D k2
          clear k2
          obtain ⟨c1, c2, _, _, _⟩ := A.two
          obtain ⟨c3, c4, _, _, _⟩ := B.two
          obtain ⟨c5, c6, _, _, _⟩ := C.two
          obtain ⟨c7, c8, _, _, _⟩ := R1.two
          go_wp2_with fail
          clear c1 c2 c3 c4 c5 c6 c7 c8
          refine (Q3.out _).mono ?_
          rintro e w3 ⟨rfl, k3⟩
          replace A := A.step k3
          replace B := B.step k3
          replace C := C.step k3
          replace R1 := R1.step k3
          have R2 := Has.made k3
          replace D := next1 D k3
          clear k3
          obtain ⟨c1, c2, _, _, _⟩ := A.two
          obtain ⟨c3, c4, _, _, _⟩ := B.two
          obtain ⟨c5, c6, _, _, _⟩ := C.two
          obtain ⟨c7, c8, _, _, _⟩ := R1.two
          obtain ⟨c9, c10, _, _, _⟩ := R2.two
          go_wp2_with fail
          clear c1 c2 c3 c4 c5 c6 c7 c8 c9 c10
          refine (Q4.out _).mono ?_
          rintro e w4 ⟨rfl, k4⟩
          replace A := A.step k4
          replace B := B.step k4
          replace C := C.step k4
          replace R1 := R1.step k4
          replace R2 := R2.step k4
          have R3 := Has.made k4
          replace D := next1 D k4
          clear k4
          obtain ⟨c1, c2, _, _, _⟩ := A.two
          obtain ⟨c3, c4, _, _, _⟩ := B.two
          obtain ⟨c5, c6, _, _, _⟩ := C.two
          obtain ⟨c7, c8, _, _, _⟩ := R1.two
          obtain ⟨c9, c10, _, _, _⟩ := R2.two
          obtain ⟨c11, c12, _, _, _⟩ := R3.two
          go_wp2_with fail
          clear c1 c2 c3 c4 c5 c6 c7 c8 c9 c10 c11 c12
          refine (Q5.out _).mono ?_
          rintro e w5 ⟨rfl, k5⟩
          replace A := A.step k5
          replace B := B.step k5
          replace C := C.step k5
          replace R1 := R1.step k5
          replace R2 := R2.step k5
          replace R3 := R3.step k5
          have R4 := Has.made k5
          replace D := next1 D k5
          clear k5
          obtain ⟨c1, c2, _, _, _⟩ := A.two
          obtain ⟨c3, c4, _, _, _⟩ := B.two
          obtain ⟨c5, c6, _, _, _⟩ := C.two
          obtain ⟨c7, c8, _, _, _⟩ := R1.two
          obtain ⟨c9, c10, _, _, _⟩ := R2.two
          obtain ⟨c11, c12, _, _, _⟩ := R3.two
          obtain ⟨c13, c14, _, _, _⟩ := R4.two
          go_wp2_with fail
          go_ret
          exact ⟨rfl, next0 D (below_alloc _ _)⟩

set_option maxRecDepth 100000 in
set_option maxHeartbeats 6400000 in
theorem laws (a b c d e f : Int) (w : World) (ha0 : -9223372036854775808 ≤ a) (ha1 : a ≤ 9223372036854775807) (hb0 : -9223372036854775808 ≤ b) (hb1 : b ≤ 9223372036854775807) (hc0 : -9223372036854775808 ≤ c) (hc1 : c ≤ 9223372036854775807) (hd0 : -9223372036854775808 ≤ d) (hd1 : d ≤ 9223372036854775807) (he0 : -9223372036854775808 ≤ e) (he1 : e ≤ 9223372036854775807) (hf0 : -9223372036854775808 ≤ f) (hf1 : f ≤ 9223372036854775807) (ht : Tab w) :
    Calls Tryd.prog 12 #[.agg #[.int .i64 a, .int .i64 b], .agg #[.int .i64 c, .int .i64 d], .agg #[.int .i64 e, .int .i64 f]] w fun e w' => e = .returned (.bool true) ∧ Below w.heap.size w w' := by
  obtain ⟨V1, h1⟩ : ∃ V, vld a b = V := ⟨_, rfl⟩
  obtain ⟨V2, h2⟩ : ∃ V, vld c d = V := ⟨_, rfl⟩
  obtain ⟨V3, h3⟩ : ∃ V, vld e f = V := ⟨_, rfl⟩
  have p1 := fun w2 => FracD.valid_any a b w2 ha0 ha1 hb0 hb1
  have p2 := fun w2 => FracD.valid_any c d w2 hc0 hc1 hd0 hd1
  have p3 := fun w2 => FracD.valid_any e f w2 he0 he1 hf0 hf1
  rw [h1] at p1
  rw [h2] at p2
  rw [h3] at p3
  have P1 := Lib.hid p1
  have P2 := Lib.hid p2
  have P3 := Lib.hid p3
  clear p1 p2 p3
  cases V1
  case false =>
    have H1 := Lib.hid h1
    have H2 := Lib.hid h2
    have H3 := Lib.hid h3
    clear h1 h2 h3
    go_enter Tryd.func12, Tryd.ntmps12
    go_wp2_with fail
    refine (P1.out _).mono ?_
    rintro e w1 ⟨rfl, k1⟩
    have A := (((Has.new w 46 #[.int .i64 a, .int .i64 b]).alloc (.cells #[.int .i64 c, .int .i64 d] 46)).alloc (.cells #[.int .i64 e, .int .i64 f] 46)).below k1 (by simp <;> omega)
    have B := ((Has.new1 w (.cells #[.int .i64 a, .int .i64 b] 46) 46 #[.int .i64 c, .int .i64 d]).alloc (.cells #[.int .i64 e, .int .i64 f] 46)).below k1 (by simp <;> omega)
    have C := (Has.new2 w (.cells #[.int .i64 a, .int .i64 b] 46) (.cells #[.int .i64 c, .int .i64 d] 46) 46 #[.int .i64 e, .int .i64 f]).below k1 (by simp)
    have D := (((below_alloc w _).alloc (by simp) _).alloc (by simp <;> omega) _).trans (k1.mono (by simp <;> omega))
    clear k1
    obtain ⟨c1, c2, _, _, _⟩ := A.two
    obtain ⟨c3, c4, _, _, _⟩ := B.two
    obtain ⟨c5, c6, _, _, _⟩ := C.two
    go_wp2_with fail
    clear c1 c2 c3 c4 c5 c6
    refine (FracW.awake_any _ (tab_below ht D)).mono ?_
    rintro e w2 ⟨rfl, k2⟩
    replace A := A.step0 k2
    replace B := B.step0 k2
    replace C := C.step0 k2
    replace D := next0 D k2
    clear k2
    obtain ⟨c1, c2, _, _, _⟩ := A.two
    obtain ⟨c3, c4, _, _, _⟩ := B.two
    obtain ⟨c5, c6, _, _, _⟩ := C.two
    go_wp2_with fail
    go_ret
    exact ⟨rfl, D⟩
  case true =>
  cases V2
  case false =>
    have H1 := Lib.hid h1
    have H2 := Lib.hid h2
    have H3 := Lib.hid h3
    clear h1 h2 h3
    go_enter Tryd.func12, Tryd.ntmps12
    go_wp2_with fail
    refine (P1.out _).mono ?_
    rintro e w1 ⟨rfl, k1⟩
    have A := (((Has.new w 46 #[.int .i64 a, .int .i64 b]).alloc (.cells #[.int .i64 c, .int .i64 d] 46)).alloc (.cells #[.int .i64 e, .int .i64 f] 46)).below k1 (by simp <;> omega)
    have B := ((Has.new1 w (.cells #[.int .i64 a, .int .i64 b] 46) 46 #[.int .i64 c, .int .i64 d]).alloc (.cells #[.int .i64 e, .int .i64 f] 46)).below k1 (by simp <;> omega)
    have C := (Has.new2 w (.cells #[.int .i64 a, .int .i64 b] 46) (.cells #[.int .i64 c, .int .i64 d] 46) 46 #[.int .i64 e, .int .i64 f]).below k1 (by simp)
    have D := (((below_alloc w _).alloc (by simp) _).alloc (by simp <;> omega) _).trans (k1.mono (by simp <;> omega))
    clear k1
    obtain ⟨c1, c2, _, _, _⟩ := A.two
    obtain ⟨c3, c4, _, _, _⟩ := B.two
    obtain ⟨c5, c6, _, _, _⟩ := C.two
    go_wp2_with fail
    clear c1 c2 c3 c4 c5 c6
    refine (P2.out _).mono ?_
    rintro e w2 ⟨rfl, k2⟩
    replace A := A.step0 k2
    replace B := B.step0 k2
    replace C := C.step0 k2
    replace D := next0 D k2
    clear k2
    obtain ⟨c1, c2, _, _, _⟩ := A.two
    obtain ⟨c3, c4, _, _, _⟩ := B.two
    obtain ⟨c5, c6, _, _, _⟩ := C.two
    go_wp2_with fail
    clear c1 c2 c3 c4 c5 c6
    refine (FracW.awake_any _ (tab_below ht D)).mono ?_
    rintro e w3 ⟨rfl, k3⟩
    replace A := A.step0 k3
    replace B := B.step0 k3
    replace C := C.step0 k3
    replace D := next0 D k3
    clear k3
    obtain ⟨c1, c2, _, _, _⟩ := A.two
    obtain ⟨c3, c4, _, _, _⟩ := B.two
    obtain ⟨c5, c6, _, _, _⟩ := C.two
    go_wp2_with fail
    go_ret
    exact ⟨rfl, D⟩
  case true =>
  cases V3
  case false =>
    have H1 := Lib.hid h1
    have H2 := Lib.hid h2
    have H3 := Lib.hid h3
    clear h1 h2 h3
    go_enter Tryd.func12, Tryd.ntmps12
    go_wp2_with fail
    refine (P1.out _).mono ?_
    rintro e w1 ⟨rfl, k1⟩
    have A := (((Has.new w 46 #[.int .i64 a, .int .i64 b]).alloc (.cells #[.int .i64 c, .int .i64 d] 46)).alloc (.cells #[.int .i64 e, .int .i64 f] 46)).below k1 (by simp <;> omega)
    have B := ((Has.new1 w (.cells #[.int .i64 a, .int .i64 b] 46) 46 #[.int .i64 c, .int .i64 d]).alloc (.cells #[.int .i64 e, .int .i64 f] 46)).below k1 (by simp <;> omega)
    have C := (Has.new2 w (.cells #[.int .i64 a, .int .i64 b] 46) (.cells #[.int .i64 c, .int .i64 d] 46) 46 #[.int .i64 e, .int .i64 f]).below k1 (by simp)
    have D := (((below_alloc w _).alloc (by simp) _).alloc (by simp <;> omega) _).trans (k1.mono (by simp <;> omega))
    clear k1
    obtain ⟨c1, c2, _, _, _⟩ := A.two
    obtain ⟨c3, c4, _, _, _⟩ := B.two
    obtain ⟨c5, c6, _, _, _⟩ := C.two
    go_wp2_with fail
    clear c1 c2 c3 c4 c5 c6
    refine (P2.out _).mono ?_
    rintro e w2 ⟨rfl, k2⟩
    replace A := A.step0 k2
    replace B := B.step0 k2
    replace C := C.step0 k2
    replace D := next0 D k2
    clear k2
    obtain ⟨c1, c2, _, _, _⟩ := A.two
    obtain ⟨c3, c4, _, _, _⟩ := B.two
    obtain ⟨c5, c6, _, _, _⟩ := C.two
    go_wp2_with fail
    clear c1 c2 c3 c4 c5 c6
    refine (P3.out _).mono ?_
    rintro e w3 ⟨rfl, k3⟩
    replace A := A.step0 k3
    replace B := B.step0 k3
    replace C := C.step0 k3
    replace D := next0 D k3
    clear k3
    obtain ⟨c1, c2, _, _, _⟩ := A.two
    obtain ⟨c3, c4, _, _, _⟩ := B.two
    obtain ⟨c5, c6, _, _, _⟩ := C.two
    go_wp2_with fail
    clear c1 c2 c3 c4 c5 c6
    refine (FracW.awake_any _ (tab_below ht D)).mono ?_
    rintro e w4 ⟨rfl, k4⟩
    replace A := A.step0 k4
    replace B := B.step0 k4
    replace C := C.step0 k4
    replace D := next0 D k4
    clear k4
    obtain ⟨c1, c2, _, _, _⟩ := A.two
    obtain ⟨c3, c4, _, _, _⟩ := B.two
    obtain ⟨c5, c6, _, _, _⟩ := C.two
    go_wp2_with fail
    go_ret
    exact ⟨rfl, D⟩
  case true =>
    have q1 := fun w2 => add_at h1 h2 w2
    have q2 := fun w2 => add_at h2 h1 w2
    rw [← FracN.add_comm a b c d] at q2
    have q4 := fun w2 => mul_at h1 h2 w2
    have q5 := fun w2 => mul_at h2 h1 w2
    rw [← FracN.mul_comm a b c d] at q5
    have vs := add_vld h1 h2
    have vp := mul_vld h1 h2
    have bs := sub_back h1 h2
    have bp := fun hc => div_back h1 h2 hc
    have dd := fun w2 => distributes_any a b c d e f w2 h1 h2 h3
    generalize addF a b c d = s at q1 q2 vs bs
    generalize mulF a b c d = p at q4 q5 vp bp
    obtain ⟨s1, s2, sz⟩ := s
    obtain ⟨p1, p2, pz⟩ := p
    have Q1 := Lib.hid q1
    have Q2 := Lib.hid q2
    have Q4 := Lib.hid q4
    have Q5 := Lib.hid q5
    have DD := Lib.hid dd
    clear q1 q2 q4 q5 dd
    have q3 : sz = 0 → ∀ w2, Calls Tryd.prog 55 #[.agg #[.int .i64 s1, .int .i64 s2], .agg #[.int .i64 c, .int .i64 d]] w2 fun e w' => e = .returned (fr (a, b, 0)) ∧ Below w2.heap.size w2 w' := fun hz w2 => by
      have q := sub_at (vs hz) h2 w2
      rw [bs hz] at q
      exact q
    have q6 : pz = 0 → ¬ c = 0 → ∀ w2, Calls Tryd.prog 57 #[.agg #[.int .i64 p1, .int .i64 p2], .agg #[.int .i64 c, .int .i64 d]] w2 fun e w' => e = .returned (fr (a, b, 0)) ∧ Below w2.heap.size w2 w' := fun hz hc w2 => by
      have q := div_at (vp hz) h2 w2
      rw [bp hc hz] at q
      exact q
    clear vs vp bs bp
    have H1 := Lib.hid h1
    have H2 := Lib.hid h2
    have H3 := Lib.hid h3
    clear h1 h2 h3
    by_cases hsz : sz = 0
    case pos =>
      subst hsz
      have Q3 := Lib.hid (q3 rfl)
      clear q3
      by_cases hpz : pz = 0
      case neg =>
        have hpz' : (pz == 0) = false := by simpa using hpz
        clear q6 hpz
        go_enter Tryd.func12, Tryd.ntmps12
        go_wp2_with fail
        refine (P1.out _).mono ?_
        rintro e w1 ⟨rfl, k1⟩
        have A := (((Has.new w 46 #[.int .i64 a, .int .i64 b]).alloc (.cells #[.int .i64 c, .int .i64 d] 46)).alloc (.cells #[.int .i64 e, .int .i64 f] 46)).below k1 (by simp <;> omega)
        have B := ((Has.new1 w (.cells #[.int .i64 a, .int .i64 b] 46) 46 #[.int .i64 c, .int .i64 d]).alloc (.cells #[.int .i64 e, .int .i64 f] 46)).below k1 (by simp <;> omega)
        have C := (Has.new2 w (.cells #[.int .i64 a, .int .i64 b] 46) (.cells #[.int .i64 c, .int .i64 d] 46) 46 #[.int .i64 e, .int .i64 f]).below k1 (by simp)
        have D := (((below_alloc w _).alloc (by simp) _).alloc (by simp <;> omega) _).trans (k1.mono (by simp <;> omega))
        clear k1
        obtain ⟨c1, c2, _, _, _⟩ := A.two
        obtain ⟨c3, c4, _, _, _⟩ := B.two
        obtain ⟨c5, c6, _, _, _⟩ := C.two
        go_wp2_with fail
        clear c1 c2 c3 c4 c5 c6
        refine (P2.out _).mono ?_
        rintro e w2 ⟨rfl, k2⟩
        replace A := A.step0 k2
        replace B := B.step0 k2
        replace C := C.step0 k2
        replace D := next0 D k2
        clear k2
        obtain ⟨c1, c2, _, _, _⟩ := A.two
        obtain ⟨c3, c4, _, _, _⟩ := B.two
        obtain ⟨c5, c6, _, _, _⟩ := C.two
        go_wp2_with fail
        clear c1 c2 c3 c4 c5 c6
        refine (P3.out _).mono ?_
        rintro e w3 ⟨rfl, k3⟩
        replace A := A.step0 k3
        replace B := B.step0 k3
        replace C := C.step0 k3
        replace D := next0 D k3
        clear k3
        obtain ⟨c1, c2, _, _, _⟩ := A.two
        obtain ⟨c3, c4, _, _, _⟩ := B.two
        obtain ⟨c5, c6, _, _, _⟩ := C.two
        go_wp2_with fail
        clear c1 c2 c3 c4 c5 c6
        refine (Q1.out _).mono ?_
        rintro e w4 ⟨rfl, k4⟩
        replace A := A.step0 k4
        replace B := B.step0 k4
        replace C := C.step0 k4
        replace D := next0 D k4
        clear k4
        obtain ⟨c1, c2, _, _, _⟩ := A.two
        obtain ⟨c3, c4, _, _, _⟩ := B.two
        obtain ⟨c5, c6, _, _, _⟩ := C.two
        go_wp2_with fail
        clear c1 c2 c3 c4 c5 c6
        refine (Q2.out _).mono ?_
        rintro e w5 ⟨rfl, k5⟩
        replace A := A.step k5
        replace B := B.step k5
        replace C := C.step k5
        have R4 := Has.made k5
        replace D := next1 D k5
        clear k5
        obtain ⟨c1, c2, _, _, _⟩ := A.two
        obtain ⟨c3, c4, _, _, _⟩ := B.two
        obtain ⟨c5, c6, _, _, _⟩ := C.two
        obtain ⟨c7, c8, _, _, _⟩ := R4.two
        go_wp2_with fail
        clear c1 c2 c3 c4 c5 c6 c7 c8
        refine (Q3.out _).mono ?_
        rintro e w6 ⟨rfl, k6⟩
        replace A := A.step k6
        replace B := B.step k6
        replace C := C.step k6
        replace R4 := R4.step k6
        have R5 := Has.made k6
        replace D := next1 D k6
        clear k6
        obtain ⟨c1, c2, _, _, _⟩ := A.two
        obtain ⟨c3, c4, _, _, _⟩ := B.two
        obtain ⟨c5, c6, _, _, _⟩ := C.two
        obtain ⟨c7, c8, _, _, _⟩ := R4.two
        obtain ⟨c9, c10, _, _, _⟩ := R5.two
        go_wp2_with fail
        clear c1 c2 c3 c4 c5 c6 c7 c8 c9 c10
        refine (Q4.out _).mono ?_
        rintro e w7 ⟨rfl, k7⟩
        replace A := A.step k7
        replace B := B.step k7
        replace C := C.step k7
        replace R4 := R4.step k7
        replace R5 := R5.step k7
        have R6 := Has.made k7
        replace D := next1 D k7
        clear k7
        obtain ⟨c1, c2, _, _, _⟩ := A.two
        obtain ⟨c3, c4, _, _, _⟩ := B.two
        obtain ⟨c5, c6, _, _, _⟩ := C.two
        obtain ⟨c7, c8, _, _, _⟩ := R4.two
        obtain ⟨c9, c10, _, _, _⟩ := R5.two
        obtain ⟨c11, c12, _, _, _⟩ := R6.two
        go_wp2_with fail
        clear c1 c2 c3 c4 c5 c6 c7 c8 c9 c10 c11 c12
        refine (Q5.out _).mono ?_
        rintro e w8 ⟨rfl, k8⟩
        replace A := A.step k8
        replace B := B.step k8
        replace C := C.step k8
        replace R4 := R4.step k8
        replace R5 := R5.step k8
        replace R6 := R6.step k8
        have R7 := Has.made k8
        replace D := next1 D k8
        clear k8
        obtain ⟨c1, c2, _, _, _⟩ := A.two
        obtain ⟨c3, c4, _, _, _⟩ := B.two
        obtain ⟨c5, c6, _, _, _⟩ := C.two
        obtain ⟨c7, c8, _, _, _⟩ := R4.two
        obtain ⟨c9, c10, _, _, _⟩ := R5.two
        obtain ⟨c11, c12, _, _, _⟩ := R6.two
        obtain ⟨c13, c14, _, _, _⟩ := R7.two
        go_wp2_with fail
        clear c1 c2 c3 c4 c5 c6 c7 c8 c9 c10 c11 c12 c13 c14
        refine (DD.out _).mono ?_
        rintro e w9 ⟨rfl, k9⟩
        replace A := A.step k9
        replace B := B.step k9
        replace C := C.step k9
        replace R4 := R4.step k9
        replace R5 := R5.step k9
        replace R6 := R6.step k9
        replace R7 := R7.step k9
        have R8 := Has.made k9
        replace D := next1 D k9
        clear k9
        obtain ⟨c1, c2, _, _, _⟩ := A.two
        obtain ⟨c3, c4, _, _, _⟩ := B.two
        obtain ⟨c5, c6, _, _, _⟩ := C.two
        obtain ⟨c7, c8, _, _, _⟩ := R4.two
        obtain ⟨c9, c10, _, _, _⟩ := R5.two
        obtain ⟨c11, c12, _, _, _⟩ := R6.two
        obtain ⟨c13, c14, _, _, _⟩ := R7.two
        obtain ⟨c15, c16, _, _, _⟩ := R8.two
        go_wp2_with fail
        clear c1 c2 c3 c4 c5 c6 c7 c8 c9 c10 c11 c12 c13 c14 c15 c16
        refine (FracW.awake_any _ (tab_below ht D)).mono ?_
        rintro e w10 ⟨rfl, k10⟩
        replace A := A.step0 k10
        replace B := B.step0 k10
        replace C := C.step0 k10
        replace R4 := R4.step0 k10
        replace R5 := R5.step0 k10
        replace R6 := R6.step0 k10
        replace R7 := R7.step0 k10
        replace R8 := R8.step0 k10
        replace D := next0 D k10
        clear k10
        obtain ⟨c1, c2, _, _, _⟩ := A.two
        obtain ⟨c3, c4, _, _, _⟩ := B.two
        obtain ⟨c5, c6, _, _, _⟩ := C.two
        obtain ⟨c7, c8, _, _, _⟩ := R4.two
        obtain ⟨c9, c10, _, _, _⟩ := R5.two
        obtain ⟨c11, c12, _, _, _⟩ := R6.two
        obtain ⟨c13, c14, _, _, _⟩ := R7.two
        obtain ⟨c15, c16, _, _, _⟩ := R8.two
        go_wp2_with fail
        go_ret
        exact ⟨rfl, D⟩
      case pos =>
        subst hpz
        by_cases hc : c = 0
        case pos =>
          have hc' : (c != 0) = false := by simpa using hc
          clear q6 hc
          go_enter Tryd.func12, Tryd.ntmps12
          go_wp2_with fail
          refine (P1.out _).mono ?_
          rintro e w1 ⟨rfl, k1⟩
          have A := (((Has.new w 46 #[.int .i64 a, .int .i64 b]).alloc (.cells #[.int .i64 c, .int .i64 d] 46)).alloc (.cells #[.int .i64 e, .int .i64 f] 46)).below k1 (by simp <;> omega)
          have B := ((Has.new1 w (.cells #[.int .i64 a, .int .i64 b] 46) 46 #[.int .i64 c, .int .i64 d]).alloc (.cells #[.int .i64 e, .int .i64 f] 46)).below k1 (by simp <;> omega)
          have C := (Has.new2 w (.cells #[.int .i64 a, .int .i64 b] 46) (.cells #[.int .i64 c, .int .i64 d] 46) 46 #[.int .i64 e, .int .i64 f]).below k1 (by simp)
          have D := (((below_alloc w _).alloc (by simp) _).alloc (by simp <;> omega) _).trans (k1.mono (by simp <;> omega))
          clear k1
          obtain ⟨c1, c2, _, _, _⟩ := A.two
          obtain ⟨c3, c4, _, _, _⟩ := B.two
          obtain ⟨c5, c6, _, _, _⟩ := C.two
          go_wp2_with fail
          clear c1 c2 c3 c4 c5 c6
          refine (P2.out _).mono ?_
          rintro e w2 ⟨rfl, k2⟩
          replace A := A.step0 k2
          replace B := B.step0 k2
          replace C := C.step0 k2
          replace D := next0 D k2
          clear k2
          obtain ⟨c1, c2, _, _, _⟩ := A.two
          obtain ⟨c3, c4, _, _, _⟩ := B.two
          obtain ⟨c5, c6, _, _, _⟩ := C.two
          go_wp2_with fail
          clear c1 c2 c3 c4 c5 c6
          refine (P3.out _).mono ?_
          rintro e w3 ⟨rfl, k3⟩
          replace A := A.step0 k3
          replace B := B.step0 k3
          replace C := C.step0 k3
          replace D := next0 D k3
          clear k3
          obtain ⟨c1, c2, _, _, _⟩ := A.two
          obtain ⟨c3, c4, _, _, _⟩ := B.two
          obtain ⟨c5, c6, _, _, _⟩ := C.two
          go_wp2_with fail
          clear c1 c2 c3 c4 c5 c6
          refine (Q1.out _).mono ?_
          rintro e w4 ⟨rfl, k4⟩
          replace A := A.step0 k4
          replace B := B.step0 k4
          replace C := C.step0 k4
          replace D := next0 D k4
          clear k4
          obtain ⟨c1, c2, _, _, _⟩ := A.two
          obtain ⟨c3, c4, _, _, _⟩ := B.two
          obtain ⟨c5, c6, _, _, _⟩ := C.two
          go_wp2_with fail
          clear c1 c2 c3 c4 c5 c6
          refine (Q2.out _).mono ?_
          rintro e w5 ⟨rfl, k5⟩
          replace A := A.step k5
          replace B := B.step k5
          replace C := C.step k5
          have R4 := Has.made k5
          replace D := next1 D k5
          clear k5
          obtain ⟨c1, c2, _, _, _⟩ := A.two
          obtain ⟨c3, c4, _, _, _⟩ := B.two
          obtain ⟨c5, c6, _, _, _⟩ := C.two
          obtain ⟨c7, c8, _, _, _⟩ := R4.two
          go_wp2_with fail
          clear c1 c2 c3 c4 c5 c6 c7 c8
          refine (Q3.out _).mono ?_
          rintro e w6 ⟨rfl, k6⟩
          replace A := A.step k6
          replace B := B.step k6
          replace C := C.step k6
          replace R4 := R4.step k6
          have R5 := Has.made k6
          replace D := next1 D k6
          clear k6
          obtain ⟨c1, c2, _, _, _⟩ := A.two
          obtain ⟨c3, c4, _, _, _⟩ := B.two
          obtain ⟨c5, c6, _, _, _⟩ := C.two
          obtain ⟨c7, c8, _, _, _⟩ := R4.two
          obtain ⟨c9, c10, _, _, _⟩ := R5.two
          go_wp2_with fail
          clear c1 c2 c3 c4 c5 c6 c7 c8 c9 c10
          refine (Q4.out _).mono ?_
          rintro e w7 ⟨rfl, k7⟩
          replace A := A.step k7
          replace B := B.step k7
          replace C := C.step k7
          replace R4 := R4.step k7
          replace R5 := R5.step k7
          have R6 := Has.made k7
          replace D := next1 D k7
          clear k7
          obtain ⟨c1, c2, _, _, _⟩ := A.two
          obtain ⟨c3, c4, _, _, _⟩ := B.two
          obtain ⟨c5, c6, _, _, _⟩ := C.two
          obtain ⟨c7, c8, _, _, _⟩ := R4.two
          obtain ⟨c9, c10, _, _, _⟩ := R5.two
          obtain ⟨c11, c12, _, _, _⟩ := R6.two
          go_wp2_with fail
          clear c1 c2 c3 c4 c5 c6 c7 c8 c9 c10 c11 c12
          refine (Q5.out _).mono ?_
          rintro e w8 ⟨rfl, k8⟩
          replace A := A.step k8
          replace B := B.step k8
          replace C := C.step k8
          replace R4 := R4.step k8
          replace R5 := R5.step k8
          replace R6 := R6.step k8
          have R7 := Has.made k8
          replace D := next1 D k8
          clear k8
          obtain ⟨c1, c2, _, _, _⟩ := A.two
          obtain ⟨c3, c4, _, _, _⟩ := B.two
          obtain ⟨c5, c6, _, _, _⟩ := C.two
          obtain ⟨c7, c8, _, _, _⟩ := R4.two
          obtain ⟨c9, c10, _, _, _⟩ := R5.two
          obtain ⟨c11, c12, _, _, _⟩ := R6.two
          obtain ⟨c13, c14, _, _, _⟩ := R7.two
          go_wp2_with fail
          clear c1 c2 c3 c4 c5 c6 c7 c8 c9 c10 c11 c12 c13 c14
          refine (DD.out _).mono ?_
          rintro e w9 ⟨rfl, k9⟩
          replace A := A.step k9
          replace B := B.step k9
          replace C := C.step k9
          replace R4 := R4.step k9
          replace R5 := R5.step k9
          replace R6 := R6.step k9
          replace R7 := R7.step k9
          have R8 := Has.made k9
          replace D := next1 D k9
          clear k9
          obtain ⟨c1, c2, _, _, _⟩ := A.two
          obtain ⟨c3, c4, _, _, _⟩ := B.two
          obtain ⟨c5, c6, _, _, _⟩ := C.two
          obtain ⟨c7, c8, _, _, _⟩ := R4.two
          obtain ⟨c9, c10, _, _, _⟩ := R5.two
          obtain ⟨c11, c12, _, _, _⟩ := R6.two
          obtain ⟨c13, c14, _, _, _⟩ := R7.two
          obtain ⟨c15, c16, _, _, _⟩ := R8.two
          go_wp2_with fail
          clear c1 c2 c3 c4 c5 c6 c7 c8 c9 c10 c11 c12 c13 c14 c15 c16
          refine (FracW.awake_any _ (tab_below ht D)).mono ?_
          rintro e w10 ⟨rfl, k10⟩
          replace A := A.step0 k10
          replace B := B.step0 k10
          replace C := C.step0 k10
          replace R4 := R4.step0 k10
          replace R5 := R5.step0 k10
          replace R6 := R6.step0 k10
          replace R7 := R7.step0 k10
          replace R8 := R8.step0 k10
          replace D := next0 D k10
          clear k10
          obtain ⟨c1, c2, _, _, _⟩ := A.two
          obtain ⟨c3, c4, _, _, _⟩ := B.two
          obtain ⟨c5, c6, _, _, _⟩ := C.two
          obtain ⟨c7, c8, _, _, _⟩ := R4.two
          obtain ⟨c9, c10, _, _, _⟩ := R5.two
          obtain ⟨c11, c12, _, _, _⟩ := R6.two
          obtain ⟨c13, c14, _, _, _⟩ := R7.two
          obtain ⟨c15, c16, _, _, _⟩ := R8.two
          go_wp2_with fail
          go_ret
          exact ⟨rfl, D⟩
        case neg =>
          have hc' : (c != 0) = true := by simpa using hc
          have Q6 := Lib.hid (q6 rfl hc)
          clear q6 hc
          go_enter Tryd.func12, Tryd.ntmps12
          go_wp2_with fail
          refine (P1.out _).mono ?_
          rintro e w1 ⟨rfl, k1⟩
          have A := (((Has.new w 46 #[.int .i64 a, .int .i64 b]).alloc (.cells #[.int .i64 c, .int .i64 d] 46)).alloc (.cells #[.int .i64 e, .int .i64 f] 46)).below k1 (by simp <;> omega)
          have B := ((Has.new1 w (.cells #[.int .i64 a, .int .i64 b] 46) 46 #[.int .i64 c, .int .i64 d]).alloc (.cells #[.int .i64 e, .int .i64 f] 46)).below k1 (by simp <;> omega)
          have C := (Has.new2 w (.cells #[.int .i64 a, .int .i64 b] 46) (.cells #[.int .i64 c, .int .i64 d] 46) 46 #[.int .i64 e, .int .i64 f]).below k1 (by simp)
          have D := (((below_alloc w _).alloc (by simp) _).alloc (by simp <;> omega) _).trans (k1.mono (by simp <;> omega))
          clear k1
          obtain ⟨c1, c2, _, _, _⟩ := A.two
          obtain ⟨c3, c4, _, _, _⟩ := B.two
          obtain ⟨c5, c6, _, _, _⟩ := C.two
          go_wp2_with fail
          clear c1 c2 c3 c4 c5 c6
          refine (P2.out _).mono ?_
          rintro e w2 ⟨rfl, k2⟩
          replace A := A.step0 k2
          replace B := B.step0 k2
          replace C := C.step0 k2
          replace D := next0 D k2
          clear k2
          obtain ⟨c1, c2, _, _, _⟩ := A.two
          obtain ⟨c3, c4, _, _, _⟩ := B.two
          obtain ⟨c5, c6, _, _, _⟩ := C.two
          go_wp2_with fail
          clear c1 c2 c3 c4 c5 c6
          refine (P3.out _).mono ?_
          rintro e w3 ⟨rfl, k3⟩
          replace A := A.step0 k3
          replace B := B.step0 k3
          replace C := C.step0 k3
          replace D := next0 D k3
          clear k3
          obtain ⟨c1, c2, _, _, _⟩ := A.two
          obtain ⟨c3, c4, _, _, _⟩ := B.two
          obtain ⟨c5, c6, _, _, _⟩ := C.two
          go_wp2_with fail
          clear c1 c2 c3 c4 c5 c6
          refine (Q1.out _).mono ?_
          rintro e w4 ⟨rfl, k4⟩
          replace A := A.step0 k4
          replace B := B.step0 k4
          replace C := C.step0 k4
          replace D := next0 D k4
          clear k4
          obtain ⟨c1, c2, _, _, _⟩ := A.two
          obtain ⟨c3, c4, _, _, _⟩ := B.two
          obtain ⟨c5, c6, _, _, _⟩ := C.two
          go_wp2_with fail
          clear c1 c2 c3 c4 c5 c6
          refine (Q2.out _).mono ?_
          rintro e w5 ⟨rfl, k5⟩
          replace A := A.step k5
          replace B := B.step k5
          replace C := C.step k5
          have R4 := Has.made k5
          replace D := next1 D k5
          clear k5
          obtain ⟨c1, c2, _, _, _⟩ := A.two
          obtain ⟨c3, c4, _, _, _⟩ := B.two
          obtain ⟨c5, c6, _, _, _⟩ := C.two
          obtain ⟨c7, c8, _, _, _⟩ := R4.two
          go_wp2_with fail
          clear c1 c2 c3 c4 c5 c6 c7 c8
          refine (Q3.out _).mono ?_
          rintro e w6 ⟨rfl, k6⟩
          replace A := A.step k6
          replace B := B.step k6
          replace C := C.step k6
          replace R4 := R4.step k6
          have R5 := Has.made k6
          replace D := next1 D k6
          clear k6
          obtain ⟨c1, c2, _, _, _⟩ := A.two
          obtain ⟨c3, c4, _, _, _⟩ := B.two
          obtain ⟨c5, c6, _, _, _⟩ := C.two
          obtain ⟨c7, c8, _, _, _⟩ := R4.two
          obtain ⟨c9, c10, _, _, _⟩ := R5.two
          go_wp2_with fail
          clear c1 c2 c3 c4 c5 c6 c7 c8 c9 c10
          refine (Q4.out _).mono ?_
          rintro e w7 ⟨rfl, k7⟩
          replace A := A.step k7
          replace B := B.step k7
          replace C := C.step k7
          replace R4 := R4.step k7
          replace R5 := R5.step k7
          have R6 := Has.made k7
          replace D := next1 D k7
          clear k7
          obtain ⟨c1, c2, _, _, _⟩ := A.two
          obtain ⟨c3, c4, _, _, _⟩ := B.two
          obtain ⟨c5, c6, _, _, _⟩ := C.two
          obtain ⟨c7, c8, _, _, _⟩ := R4.two
          obtain ⟨c9, c10, _, _, _⟩ := R5.two
          obtain ⟨c11, c12, _, _, _⟩ := R6.two
          go_wp2_with fail
          clear c1 c2 c3 c4 c5 c6 c7 c8 c9 c10 c11 c12
          refine (Q5.out _).mono ?_
          rintro e w8 ⟨rfl, k8⟩
          replace A := A.step k8
          replace B := B.step k8
          replace C := C.step k8
          replace R4 := R4.step k8
          replace R5 := R5.step k8
          replace R6 := R6.step k8
          have R7 := Has.made k8
          replace D := next1 D k8
          clear k8
          obtain ⟨c1, c2, _, _, _⟩ := A.two
          obtain ⟨c3, c4, _, _, _⟩ := B.two
          obtain ⟨c5, c6, _, _, _⟩ := C.two
          obtain ⟨c7, c8, _, _, _⟩ := R4.two
          obtain ⟨c9, c10, _, _, _⟩ := R5.two
          obtain ⟨c11, c12, _, _, _⟩ := R6.two
          obtain ⟨c13, c14, _, _, _⟩ := R7.two
          go_wp2_with fail
          clear c1 c2 c3 c4 c5 c6 c7 c8 c9 c10 c11 c12 c13 c14
          refine (Q6.out _).mono ?_
          rintro e w9 ⟨rfl, k9⟩
          replace A := A.step k9
          replace B := B.step k9
          replace C := C.step k9
          replace R4 := R4.step k9
          replace R5 := R5.step k9
          replace R6 := R6.step k9
          replace R7 := R7.step k9
          have R8 := Has.made k9
          replace D := next1 D k9
          clear k9
          obtain ⟨c1, c2, _, _, _⟩ := A.two
          obtain ⟨c3, c4, _, _, _⟩ := B.two
          obtain ⟨c5, c6, _, _, _⟩ := C.two
          obtain ⟨c7, c8, _, _, _⟩ := R4.two
          obtain ⟨c9, c10, _, _, _⟩ := R5.two
          obtain ⟨c11, c12, _, _, _⟩ := R6.two
          obtain ⟨c13, c14, _, _, _⟩ := R7.two
          obtain ⟨c15, c16, _, _, _⟩ := R8.two
          go_wp2_with fail
          clear c1 c2 c3 c4 c5 c6 c7 c8 c9 c10 c11 c12 c13 c14 c15 c16
          refine (DD.out _).mono ?_
          rintro e w10 ⟨rfl, k10⟩
          replace A := A.step k10
          replace B := B.step k10
          replace C := C.step k10
          replace R4 := R4.step k10
          replace R5 := R5.step k10
          replace R6 := R6.step k10
          replace R7 := R7.step k10
          replace R8 := R8.step k10
          have R9 := Has.made k10
          replace D := next1 D k10
          clear k10
          obtain ⟨c1, c2, _, _, _⟩ := A.two
          obtain ⟨c3, c4, _, _, _⟩ := B.two
          obtain ⟨c5, c6, _, _, _⟩ := C.two
          obtain ⟨c7, c8, _, _, _⟩ := R4.two
          obtain ⟨c9, c10, _, _, _⟩ := R5.two
          obtain ⟨c11, c12, _, _, _⟩ := R6.two
          obtain ⟨c13, c14, _, _, _⟩ := R7.two
          obtain ⟨c15, c16, _, _, _⟩ := R8.two
          obtain ⟨c17, c18, _, _, _⟩ := R9.two
          go_wp2_with fail
          clear c1 c2 c3 c4 c5 c6 c7 c8 c9 c10 c11 c12 c13 c14 c15 c16 c17 c18
          refine (FracW.awake_any _ (tab_below ht D)).mono ?_
          rintro e w11 ⟨rfl, k11⟩
          replace A := A.step0 k11
          replace B := B.step0 k11
          replace C := C.step0 k11
          replace R4 := R4.step0 k11
          replace R5 := R5.step0 k11
          replace R6 := R6.step0 k11
          replace R7 := R7.step0 k11
          replace R8 := R8.step0 k11
          replace R9 := R9.step0 k11
          replace D := next0 D k11
          clear k11
          obtain ⟨c1, c2, _, _, _⟩ := A.two
          obtain ⟨c3, c4, _, _, _⟩ := B.two
          obtain ⟨c5, c6, _, _, _⟩ := C.two
          obtain ⟨c7, c8, _, _, _⟩ := R4.two
          obtain ⟨c9, c10, _, _, _⟩ := R5.two
          obtain ⟨c11, c12, _, _, _⟩ := R6.two
          obtain ⟨c13, c14, _, _, _⟩ := R7.two
          obtain ⟨c15, c16, _, _, _⟩ := R8.two
          obtain ⟨c17, c18, _, _, _⟩ := R9.two
          go_wp2_with fail
          go_ret
          exact ⟨rfl, D⟩
    case neg =>
      have hsz' : (sz == 0) = false := by simpa using hsz
      clear q3 hsz
      by_cases hpz : pz = 0
      case neg =>
        have hpz' : (pz == 0) = false := by simpa using hpz
        clear q6 hpz
        go_enter Tryd.func12, Tryd.ntmps12
        go_wp2_with fail
        refine (P1.out _).mono ?_
        rintro e w1 ⟨rfl, k1⟩
        have A := (((Has.new w 46 #[.int .i64 a, .int .i64 b]).alloc (.cells #[.int .i64 c, .int .i64 d] 46)).alloc (.cells #[.int .i64 e, .int .i64 f] 46)).below k1 (by simp <;> omega)
        have B := ((Has.new1 w (.cells #[.int .i64 a, .int .i64 b] 46) 46 #[.int .i64 c, .int .i64 d]).alloc (.cells #[.int .i64 e, .int .i64 f] 46)).below k1 (by simp <;> omega)
        have C := (Has.new2 w (.cells #[.int .i64 a, .int .i64 b] 46) (.cells #[.int .i64 c, .int .i64 d] 46) 46 #[.int .i64 e, .int .i64 f]).below k1 (by simp)
        have D := (((below_alloc w _).alloc (by simp) _).alloc (by simp <;> omega) _).trans (k1.mono (by simp <;> omega))
        clear k1
        obtain ⟨c1, c2, _, _, _⟩ := A.two
        obtain ⟨c3, c4, _, _, _⟩ := B.two
        obtain ⟨c5, c6, _, _, _⟩ := C.two
        go_wp2_with fail
        clear c1 c2 c3 c4 c5 c6
        refine (P2.out _).mono ?_
        rintro e w2 ⟨rfl, k2⟩
        replace A := A.step0 k2
        replace B := B.step0 k2
        replace C := C.step0 k2
        replace D := next0 D k2
        clear k2
        obtain ⟨c1, c2, _, _, _⟩ := A.two
        obtain ⟨c3, c4, _, _, _⟩ := B.two
        obtain ⟨c5, c6, _, _, _⟩ := C.two
        go_wp2_with fail
        clear c1 c2 c3 c4 c5 c6
        refine (P3.out _).mono ?_
        rintro e w3 ⟨rfl, k3⟩
        replace A := A.step0 k3
        replace B := B.step0 k3
        replace C := C.step0 k3
        replace D := next0 D k3
        clear k3
        obtain ⟨c1, c2, _, _, _⟩ := A.two
        obtain ⟨c3, c4, _, _, _⟩ := B.two
        obtain ⟨c5, c6, _, _, _⟩ := C.two
        go_wp2_with fail
        clear c1 c2 c3 c4 c5 c6
        refine (Q1.out _).mono ?_
        rintro e w4 ⟨rfl, k4⟩
        replace A := A.step0 k4
        replace B := B.step0 k4
        replace C := C.step0 k4
        replace D := next0 D k4
        clear k4
        obtain ⟨c1, c2, _, _, _⟩ := A.two
        obtain ⟨c3, c4, _, _, _⟩ := B.two
        obtain ⟨c5, c6, _, _, _⟩ := C.two
        go_wp2_with fail
        clear c1 c2 c3 c4 c5 c6
        refine (Q2.out _).mono ?_
        rintro e w5 ⟨rfl, k5⟩
        replace A := A.step k5
        replace B := B.step k5
        replace C := C.step k5
        have R4 := Has.made k5
        replace D := next1 D k5
        clear k5
        obtain ⟨c1, c2, _, _, _⟩ := A.two
        obtain ⟨c3, c4, _, _, _⟩ := B.two
        obtain ⟨c5, c6, _, _, _⟩ := C.two
        obtain ⟨c7, c8, _, _, _⟩ := R4.two
        go_wp2_with fail
        clear c1 c2 c3 c4 c5 c6 c7 c8
        refine (Q4.out _).mono ?_
        rintro e w6 ⟨rfl, k6⟩
        replace A := A.step k6
        replace B := B.step k6
        replace C := C.step k6
        replace R4 := R4.step k6
        have R5 := Has.made k6
        replace D := next1 D k6
        clear k6
        obtain ⟨c1, c2, _, _, _⟩ := A.two
        obtain ⟨c3, c4, _, _, _⟩ := B.two
        obtain ⟨c5, c6, _, _, _⟩ := C.two
        obtain ⟨c7, c8, _, _, _⟩ := R4.two
        obtain ⟨c9, c10, _, _, _⟩ := R5.two
        go_wp2_with fail
        clear c1 c2 c3 c4 c5 c6 c7 c8 c9 c10
        refine (Q5.out _).mono ?_
        rintro e w7 ⟨rfl, k7⟩
        replace A := A.step k7
        replace B := B.step k7
        replace C := C.step k7
        replace R4 := R4.step k7
        replace R5 := R5.step k7
        have R6 := Has.made k7
        replace D := next1 D k7
        clear k7
        obtain ⟨c1, c2, _, _, _⟩ := A.two
        obtain ⟨c3, c4, _, _, _⟩ := B.two
        obtain ⟨c5, c6, _, _, _⟩ := C.two
        obtain ⟨c7, c8, _, _, _⟩ := R4.two
        obtain ⟨c9, c10, _, _, _⟩ := R5.two
        obtain ⟨c11, c12, _, _, _⟩ := R6.two
        go_wp2_with fail
        clear c1 c2 c3 c4 c5 c6 c7 c8 c9 c10 c11 c12
        refine (DD.out _).mono ?_
        rintro e w8 ⟨rfl, k8⟩
        replace A := A.step k8
        replace B := B.step k8
        replace C := C.step k8
        replace R4 := R4.step k8
        replace R5 := R5.step k8
        replace R6 := R6.step k8
        have R7 := Has.made k8
        replace D := next1 D k8
        clear k8
        obtain ⟨c1, c2, _, _, _⟩ := A.two
        obtain ⟨c3, c4, _, _, _⟩ := B.two
        obtain ⟨c5, c6, _, _, _⟩ := C.two
        obtain ⟨c7, c8, _, _, _⟩ := R4.two
        obtain ⟨c9, c10, _, _, _⟩ := R5.two
        obtain ⟨c11, c12, _, _, _⟩ := R6.two
        obtain ⟨c13, c14, _, _, _⟩ := R7.two
        go_wp2_with fail
        clear c1 c2 c3 c4 c5 c6 c7 c8 c9 c10 c11 c12 c13 c14
        refine (FracW.awake_any _ (tab_below ht D)).mono ?_
        rintro e w9 ⟨rfl, k9⟩
        replace A := A.step0 k9
        replace B := B.step0 k9
        replace C := C.step0 k9
        replace R4 := R4.step0 k9
        replace R5 := R5.step0 k9
        replace R6 := R6.step0 k9
        replace R7 := R7.step0 k9
        replace D := next0 D k9
        clear k9
        obtain ⟨c1, c2, _, _, _⟩ := A.two
        obtain ⟨c3, c4, _, _, _⟩ := B.two
        obtain ⟨c5, c6, _, _, _⟩ := C.two
        obtain ⟨c7, c8, _, _, _⟩ := R4.two
        obtain ⟨c9, c10, _, _, _⟩ := R5.two
        obtain ⟨c11, c12, _, _, _⟩ := R6.two
        obtain ⟨c13, c14, _, _, _⟩ := R7.two
        go_wp2_with fail
        go_ret
        exact ⟨rfl, D⟩
      case pos =>
        subst hpz
        by_cases hc : c = 0
        case pos =>
          have hc' : (c != 0) = false := by simpa using hc
          clear q6 hc
          go_enter Tryd.func12, Tryd.ntmps12
          go_wp2_with fail
          refine (P1.out _).mono ?_
          rintro e w1 ⟨rfl, k1⟩
          have A := (((Has.new w 46 #[.int .i64 a, .int .i64 b]).alloc (.cells #[.int .i64 c, .int .i64 d] 46)).alloc (.cells #[.int .i64 e, .int .i64 f] 46)).below k1 (by simp <;> omega)
          have B := ((Has.new1 w (.cells #[.int .i64 a, .int .i64 b] 46) 46 #[.int .i64 c, .int .i64 d]).alloc (.cells #[.int .i64 e, .int .i64 f] 46)).below k1 (by simp <;> omega)
          have C := (Has.new2 w (.cells #[.int .i64 a, .int .i64 b] 46) (.cells #[.int .i64 c, .int .i64 d] 46) 46 #[.int .i64 e, .int .i64 f]).below k1 (by simp)
          have D := (((below_alloc w _).alloc (by simp) _).alloc (by simp <;> omega) _).trans (k1.mono (by simp <;> omega))
          clear k1
          obtain ⟨c1, c2, _, _, _⟩ := A.two
          obtain ⟨c3, c4, _, _, _⟩ := B.two
          obtain ⟨c5, c6, _, _, _⟩ := C.two
          go_wp2_with fail
          clear c1 c2 c3 c4 c5 c6
          refine (P2.out _).mono ?_
          rintro e w2 ⟨rfl, k2⟩
          replace A := A.step0 k2
          replace B := B.step0 k2
          replace C := C.step0 k2
          replace D := next0 D k2
          clear k2
          obtain ⟨c1, c2, _, _, _⟩ := A.two
          obtain ⟨c3, c4, _, _, _⟩ := B.two
          obtain ⟨c5, c6, _, _, _⟩ := C.two
          go_wp2_with fail
          clear c1 c2 c3 c4 c5 c6
          refine (P3.out _).mono ?_
          rintro e w3 ⟨rfl, k3⟩
          replace A := A.step0 k3
          replace B := B.step0 k3
          replace C := C.step0 k3
          replace D := next0 D k3
          clear k3
          obtain ⟨c1, c2, _, _, _⟩ := A.two
          obtain ⟨c3, c4, _, _, _⟩ := B.two
          obtain ⟨c5, c6, _, _, _⟩ := C.two
          go_wp2_with fail
          clear c1 c2 c3 c4 c5 c6
          refine (Q1.out _).mono ?_
          rintro e w4 ⟨rfl, k4⟩
          replace A := A.step0 k4
          replace B := B.step0 k4
          replace C := C.step0 k4
          replace D := next0 D k4
          clear k4
          obtain ⟨c1, c2, _, _, _⟩ := A.two
          obtain ⟨c3, c4, _, _, _⟩ := B.two
          obtain ⟨c5, c6, _, _, _⟩ := C.two
          go_wp2_with fail
          clear c1 c2 c3 c4 c5 c6
          refine (Q2.out _).mono ?_
          rintro e w5 ⟨rfl, k5⟩
          replace A := A.step k5
          replace B := B.step k5
          replace C := C.step k5
          have R4 := Has.made k5
          replace D := next1 D k5
          clear k5
          obtain ⟨c1, c2, _, _, _⟩ := A.two
          obtain ⟨c3, c4, _, _, _⟩ := B.two
          obtain ⟨c5, c6, _, _, _⟩ := C.two
          obtain ⟨c7, c8, _, _, _⟩ := R4.two
          go_wp2_with fail
          clear c1 c2 c3 c4 c5 c6 c7 c8
          refine (Q4.out _).mono ?_
          rintro e w6 ⟨rfl, k6⟩
          replace A := A.step k6
          replace B := B.step k6
          replace C := C.step k6
          replace R4 := R4.step k6
          have R5 := Has.made k6
          replace D := next1 D k6
          clear k6
          obtain ⟨c1, c2, _, _, _⟩ := A.two
          obtain ⟨c3, c4, _, _, _⟩ := B.two
          obtain ⟨c5, c6, _, _, _⟩ := C.two
          obtain ⟨c7, c8, _, _, _⟩ := R4.two
          obtain ⟨c9, c10, _, _, _⟩ := R5.two
          go_wp2_with fail
          clear c1 c2 c3 c4 c5 c6 c7 c8 c9 c10
          refine (Q5.out _).mono ?_
          rintro e w7 ⟨rfl, k7⟩
          replace A := A.step k7
          replace B := B.step k7
          replace C := C.step k7
          replace R4 := R4.step k7
          replace R5 := R5.step k7
          have R6 := Has.made k7
          replace D := next1 D k7
          clear k7
          obtain ⟨c1, c2, _, _, _⟩ := A.two
          obtain ⟨c3, c4, _, _, _⟩ := B.two
          obtain ⟨c5, c6, _, _, _⟩ := C.two
          obtain ⟨c7, c8, _, _, _⟩ := R4.two
          obtain ⟨c9, c10, _, _, _⟩ := R5.two
          obtain ⟨c11, c12, _, _, _⟩ := R6.two
          go_wp2_with fail
          clear c1 c2 c3 c4 c5 c6 c7 c8 c9 c10 c11 c12
          refine (DD.out _).mono ?_
          rintro e w8 ⟨rfl, k8⟩
          replace A := A.step k8
          replace B := B.step k8
          replace C := C.step k8
          replace R4 := R4.step k8
          replace R5 := R5.step k8
          replace R6 := R6.step k8
          have R7 := Has.made k8
          replace D := next1 D k8
          clear k8
          obtain ⟨c1, c2, _, _, _⟩ := A.two
          obtain ⟨c3, c4, _, _, _⟩ := B.two
          obtain ⟨c5, c6, _, _, _⟩ := C.two
          obtain ⟨c7, c8, _, _, _⟩ := R4.two
          obtain ⟨c9, c10, _, _, _⟩ := R5.two
          obtain ⟨c11, c12, _, _, _⟩ := R6.two
          obtain ⟨c13, c14, _, _, _⟩ := R7.two
          go_wp2_with fail
          clear c1 c2 c3 c4 c5 c6 c7 c8 c9 c10 c11 c12 c13 c14
          refine (FracW.awake_any _ (tab_below ht D)).mono ?_
          rintro e w9 ⟨rfl, k9⟩
          replace A := A.step0 k9
          replace B := B.step0 k9
          replace C := C.step0 k9
          replace R4 := R4.step0 k9
          replace R5 := R5.step0 k9
          replace R6 := R6.step0 k9
          replace R7 := R7.step0 k9
          replace D := next0 D k9
          clear k9
          obtain ⟨c1, c2, _, _, _⟩ := A.two
          obtain ⟨c3, c4, _, _, _⟩ := B.two
          obtain ⟨c5, c6, _, _, _⟩ := C.two
          obtain ⟨c7, c8, _, _, _⟩ := R4.two
          obtain ⟨c9, c10, _, _, _⟩ := R5.two
          obtain ⟨c11, c12, _, _, _⟩ := R6.two
          obtain ⟨c13, c14, _, _, _⟩ := R7.two
          go_wp2_with fail
          go_ret
          exact ⟨rfl, D⟩
        case neg =>
          have hc' : (c != 0) = true := by simpa using hc
          have Q6 := Lib.hid (q6 rfl hc)
          clear q6 hc
          go_enter Tryd.func12, Tryd.ntmps12
          go_wp2_with fail
          refine (P1.out _).mono ?_
          rintro e w1 ⟨rfl, k1⟩
          have A := (((Has.new w 46 #[.int .i64 a, .int .i64 b]).alloc (.cells #[.int .i64 c, .int .i64 d] 46)).alloc (.cells #[.int .i64 e, .int .i64 f] 46)).below k1 (by simp <;> omega)
          have B := ((Has.new1 w (.cells #[.int .i64 a, .int .i64 b] 46) 46 #[.int .i64 c, .int .i64 d]).alloc (.cells #[.int .i64 e, .int .i64 f] 46)).below k1 (by simp <;> omega)
          have C := (Has.new2 w (.cells #[.int .i64 a, .int .i64 b] 46) (.cells #[.int .i64 c, .int .i64 d] 46) 46 #[.int .i64 e, .int .i64 f]).below k1 (by simp)
          have D := (((below_alloc w _).alloc (by simp) _).alloc (by simp <;> omega) _).trans (k1.mono (by simp <;> omega))
          clear k1
          obtain ⟨c1, c2, _, _, _⟩ := A.two
          obtain ⟨c3, c4, _, _, _⟩ := B.two
          obtain ⟨c5, c6, _, _, _⟩ := C.two
          go_wp2_with fail
          clear c1 c2 c3 c4 c5 c6
          refine (P2.out _).mono ?_
          rintro e w2 ⟨rfl, k2⟩
          replace A := A.step0 k2
          replace B := B.step0 k2
          replace C := C.step0 k2
          replace D := next0 D k2
          clear k2
          obtain ⟨c1, c2, _, _, _⟩ := A.two
          obtain ⟨c3, c4, _, _, _⟩ := B.two
          obtain ⟨c5, c6, _, _, _⟩ := C.two
          go_wp2_with fail
          clear c1 c2 c3 c4 c5 c6
          refine (P3.out _).mono ?_
          rintro e w3 ⟨rfl, k3⟩
          replace A := A.step0 k3
          replace B := B.step0 k3
          replace C := C.step0 k3
          replace D := next0 D k3
          clear k3
          obtain ⟨c1, c2, _, _, _⟩ := A.two
          obtain ⟨c3, c4, _, _, _⟩ := B.two
          obtain ⟨c5, c6, _, _, _⟩ := C.two
          go_wp2_with fail
          clear c1 c2 c3 c4 c5 c6
          refine (Q1.out _).mono ?_
          rintro e w4 ⟨rfl, k4⟩
          replace A := A.step0 k4
          replace B := B.step0 k4
          replace C := C.step0 k4
          replace D := next0 D k4
          clear k4
          obtain ⟨c1, c2, _, _, _⟩ := A.two
          obtain ⟨c3, c4, _, _, _⟩ := B.two
          obtain ⟨c5, c6, _, _, _⟩ := C.two
          go_wp2_with fail
          clear c1 c2 c3 c4 c5 c6
          refine (Q2.out _).mono ?_
          rintro e w5 ⟨rfl, k5⟩
          replace A := A.step k5
          replace B := B.step k5
          replace C := C.step k5
          have R4 := Has.made k5
          replace D := next1 D k5
          clear k5
          obtain ⟨c1, c2, _, _, _⟩ := A.two
          obtain ⟨c3, c4, _, _, _⟩ := B.two
          obtain ⟨c5, c6, _, _, _⟩ := C.two
          obtain ⟨c7, c8, _, _, _⟩ := R4.two
          go_wp2_with fail
          clear c1 c2 c3 c4 c5 c6 c7 c8
          refine (Q4.out _).mono ?_
          rintro e w6 ⟨rfl, k6⟩
          replace A := A.step k6
          replace B := B.step k6
          replace C := C.step k6
          replace R4 := R4.step k6
          have R5 := Has.made k6
          replace D := next1 D k6
          clear k6
          obtain ⟨c1, c2, _, _, _⟩ := A.two
          obtain ⟨c3, c4, _, _, _⟩ := B.two
          obtain ⟨c5, c6, _, _, _⟩ := C.two
          obtain ⟨c7, c8, _, _, _⟩ := R4.two
          obtain ⟨c9, c10, _, _, _⟩ := R5.two
          go_wp2_with fail
          clear c1 c2 c3 c4 c5 c6 c7 c8 c9 c10
          refine (Q5.out _).mono ?_
          rintro e w7 ⟨rfl, k7⟩
          replace A := A.step k7
          replace B := B.step k7
          replace C := C.step k7
          replace R4 := R4.step k7
          replace R5 := R5.step k7
          have R6 := Has.made k7
          replace D := next1 D k7
          clear k7
          obtain ⟨c1, c2, _, _, _⟩ := A.two
          obtain ⟨c3, c4, _, _, _⟩ := B.two
          obtain ⟨c5, c6, _, _, _⟩ := C.two
          obtain ⟨c7, c8, _, _, _⟩ := R4.two
          obtain ⟨c9, c10, _, _, _⟩ := R5.two
          obtain ⟨c11, c12, _, _, _⟩ := R6.two
          go_wp2_with fail
          clear c1 c2 c3 c4 c5 c6 c7 c8 c9 c10 c11 c12
          refine (Q6.out _).mono ?_
          rintro e w8 ⟨rfl, k8⟩
          replace A := A.step k8
          replace B := B.step k8
          replace C := C.step k8
          replace R4 := R4.step k8
          replace R5 := R5.step k8
          replace R6 := R6.step k8
          have R7 := Has.made k8
          replace D := next1 D k8
          clear k8
          obtain ⟨c1, c2, _, _, _⟩ := A.two
          obtain ⟨c3, c4, _, _, _⟩ := B.two
          obtain ⟨c5, c6, _, _, _⟩ := C.two
          obtain ⟨c7, c8, _, _, _⟩ := R4.two
          obtain ⟨c9, c10, _, _, _⟩ := R5.two
          obtain ⟨c11, c12, _, _, _⟩ := R6.two
          obtain ⟨c13, c14, _, _, _⟩ := R7.two
          go_wp2_with fail
          clear c1 c2 c3 c4 c5 c6 c7 c8 c9 c10 c11 c12 c13 c14
          refine (DD.out _).mono ?_
          rintro e w9 ⟨rfl, k9⟩
          replace A := A.step k9
          replace B := B.step k9
          replace C := C.step k9
          replace R4 := R4.step k9
          replace R5 := R5.step k9
          replace R6 := R6.step k9
          replace R7 := R7.step k9
          have R8 := Has.made k9
          replace D := next1 D k9
          clear k9
          obtain ⟨c1, c2, _, _, _⟩ := A.two
          obtain ⟨c3, c4, _, _, _⟩ := B.two
          obtain ⟨c5, c6, _, _, _⟩ := C.two
          obtain ⟨c7, c8, _, _, _⟩ := R4.two
          obtain ⟨c9, c10, _, _, _⟩ := R5.two
          obtain ⟨c11, c12, _, _, _⟩ := R6.two
          obtain ⟨c13, c14, _, _, _⟩ := R7.two
          obtain ⟨c15, c16, _, _, _⟩ := R8.two
          go_wp2_with fail
          clear c1 c2 c3 c4 c5 c6 c7 c8 c9 c10 c11 c12 c13 c14 c15 c16
          refine (FracW.awake_any _ (tab_below ht D)).mono ?_
          rintro e w10 ⟨rfl, k10⟩
          replace A := A.step0 k10
          replace B := B.step0 k10
          replace C := C.step0 k10
          replace R4 := R4.step0 k10
          replace R5 := R5.step0 k10
          replace R6 := R6.step0 k10
          replace R7 := R7.step0 k10
          replace R8 := R8.step0 k10
          replace D := next0 D k10
          clear k10
          obtain ⟨c1, c2, _, _, _⟩ := A.two
          obtain ⟨c3, c4, _, _, _⟩ := B.two
          obtain ⟨c5, c6, _, _, _⟩ := C.two
          obtain ⟨c7, c8, _, _, _⟩ := R4.two
          obtain ⟨c9, c10, _, _, _⟩ := R5.two
          obtain ⟨c11, c12, _, _, _⟩ := R6.two
          obtain ⟨c13, c14, _, _, _⟩ := R7.two
          obtain ⟨c15, c16, _, _, _⟩ := R8.two
          go_wp2_with fail
          go_ret
          exact ⟨rfl, D⟩
end FracL3
end Go.Proofs.YtandcmlmklpckaaDoor
