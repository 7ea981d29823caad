/- FractionDoes's walk: it returns true, for all fractions, where strconv's table of powers of ten is as laid. -/
import Derived.Test.YtandcmlmklpckaaDoorKit
import Derived.Test.YtandcmlmklpckaaDoorFracF
import Derived.Test.YtandcmlmklpckaaDoorFracG
import Derived.Test.YtandcmlmklpckaaDoorFracW
namespace Go.Proofs.YtandcmlmklpckaaDoor
open Go Go.RowKit
namespace FracL2
open Kit FracM
open FracB (fr)
open FracT (Tab tab_below)

set_option maxRecDepth 100000 in
set_option maxHeartbeats 3200000 in
theorem does (a b c d : Int) (w : World) (ha0 : -9223372036854775808 ≤ a) (ha1 : a ≤ 9223372036854775807) (hb0 : -9223372036854775808 ≤ b) (hb1 : b ≤ 9223372036854775807)
    (hc0 : -9223372036854775808 ≤ c) (hc1 : c ≤ 9223372036854775807) (hd0 : -9223372036854775808 ≤ d) (hd1 : d ≤ 9223372036854775807) (ht : Tab w) :
    Calls Tryd.prog 11 #[.agg #[.int .i64 a, .int .i64 b], .agg #[.int .i64 c, .int .i64 d]] w fun e w' => e = .returned (.bool true) ∧ Below w.heap.size w w' := by
  have h0 := fun w2 => FracF.add_any a b c d w2 ha0 ha1 hb0 hb1 hc0 hc1 hd0 hd1
  have g0 := fun w2 => FracG.add_any a b c d w2 ha0 ha1 hb0 hb1 hc0 hc1 hd0 hd1
  generalize addF a b c d = m0 at h0 g0
  obtain ⟨x0, y0, z0⟩ := m0
  have H0 := Lib.hid h0
  have G0 := Lib.hid g0
  clear h0 g0
  have h1 := fun w2 => FracF.sub_any a b c d w2 ha0 ha1 hb0 hb1 hc0 hc1 hd0 hd1
  have g1 := fun w2 => FracG.sub_any a b c d w2 ha0 ha1 hb0 hb1 hc0 hc1 hd0 hd1
  generalize subF a b c d = m1 at h1 g1
  obtain ⟨x1, y1, z1⟩ := m1
  have H1 := Lib.hid h1
  have G1 := Lib.hid g1
  clear h1 g1
  have h2 := fun w2 => FracF.mul_any a b c d w2 ha0 ha1 hb0 hb1 hc0 hc1 hd0 hd1
  have g2 := fun w2 => FracG.mul_any a b c d w2 ha0 ha1 hb0 hb1 hc0 hc1 hd0 hd1
  generalize mulF a b c d = m2 at h2 g2
  obtain ⟨x2, y2, z2⟩ := m2
  have H2 := Lib.hid h2
  have G2 := Lib.hid g2
  clear h2 g2
  have h3 := fun w2 => FracF.div_any a b c d w2 ha0 ha1 hb0 hb1 hc0 hc1 hd0 hd1
  have g3 := fun w2 => FracG.div_any a b c d w2 ha0 ha1 hb0 hb1 hc0 hc1 hd0 hd1
  generalize divF a b c d = m3 at h3 g3
  obtain ⟨x3, y3, z3⟩ := m3
  have H3 := Lib.hid h3
  have G3 := Lib.hid g3
  clear h3 g3
  go_enter Tryd.func11, Tryd.ntmps11
  go_wp2_with fail
  refine (H0.out _).mono ?_
  rintro e w1 ⟨rfl, k1⟩
  have A := ((Has.new w 46 #[.int .i64 a, .int .i64 b]).alloc (.cells #[.int .i64 c, .int .i64 d] 46)).below k1 (by simp; omega)
  have B := (Has.new1 w (.cells #[.int .i64 a, .int .i64 b] 46) 46 #[.int .i64 c, .int .i64 d]).below k1 (by simp)
  have D := ((below_alloc w _).alloc (by simp) _).trans (k1.mono (by simp; omega))
  clear k1
  obtain ⟨c1, c2, _, _, l1⟩ := A.two
  obtain ⟨c3, c4, _, _, l2⟩ := B.two
  go_wp2_with fail
  clear c1 c2 c3 c4
  refine (H1.out _).mono ?_
  rintro e w2 ⟨rfl, k2⟩
  replace A := A.step k2
  replace B := B.step k2
  have R1 := Has.made k2
  replace D := next1 D k2
  have z12 := lt1 k2
  clear k2
  obtain ⟨c1, c2, _, _, _⟩ := A.two
  obtain ⟨c3, c4, _, _, _⟩ := B.two
  obtain ⟨c5, c6, _, _, _⟩ := R1.two
  go_wp2_with fail
  clear c1 c2 c3 c4 c5 c6
  refine (H2.out _).mono ?_
  rintro e w3 ⟨rfl, k3⟩
  replace A := A.step k3
  replace B := B.step k3
  replace R1 := R1.step k3
  have R2 := Has.made k3
  replace D := next1 D k3
  have z13 := lt1 k3
  clear k3
  obtain ⟨c1, c2, _, _, _⟩ := A.two
  obtain ⟨c3, c4, _, _, _⟩ := B.two
  obtain ⟨c5, c6, _, _, _⟩ := R1.two
  obtain ⟨c7, c8, _, _, _⟩ := R2.two
  go_wp2_with fail
  clear c1 c2 c3 c4 c5 c6 c7 c8
  refine (H3.out _).mono ?_
  rintro e w4 ⟨rfl, k4⟩
  replace A := A.step k4
  replace B := B.step k4
  replace R1 := R1.step k4
  replace R2 := R2.step k4
  have R3 := Has.made k4
  replace D := next1 D k4
  have z14 := lt1 k4
  clear k4
  obtain ⟨c1, c2, _, _, _⟩ := A.two
  obtain ⟨c3, c4, _, _, _⟩ := B.two
  obtain ⟨c5, c6, _, _, _⟩ := R1.two
  obtain ⟨c7, c8, _, _, _⟩ := R2.two
  obtain ⟨c9, c10, _, _, _⟩ := R3.two
  go_wp2_with fail
  clear c1 c2 c3 c4 c5 c6 c7 c8 c9 c10
  refine (G0.out _).mono ?_
  rintro e w5 ⟨rfl, k5⟩
  replace A := A.step k5
  replace B := B.step k5
  replace R1 := R1.step k5
  replace R2 := R2.step k5
  replace R3 := R3.step k5
  have R4 := Has.made k5
  replace D := next1 D k5
  have z15 := lt1 k5
  clear k5
  obtain ⟨c1, c2, _, _, _⟩ := A.two
  obtain ⟨c3, c4, _, _, _⟩ := B.two
  obtain ⟨c5, c6, _, _, _⟩ := R1.two
  obtain ⟨c7, c8, _, _, _⟩ := R2.two
  obtain ⟨c9, c10, _, _, _⟩ := R3.two
  obtain ⟨c11, c12, _, _, _⟩ := R4.two
  go_wp2_with fail
  clear c1 c2 c3 c4 c5 c6 c7 c8 c9 c10 c11 c12
  refine (G1.out _).mono ?_
  rintro e w6 ⟨rfl, k6⟩
  replace A := A.step k6
  replace B := B.step k6
  replace R1 := R1.step k6
  replace R2 := R2.step k6
  replace R3 := R3.step k6
  replace R4 := R4.step k6
  have R5 := Has.made k6
  replace D := next1 D k6
  have z16 := lt1 k6
  clear k6
  obtain ⟨c1, c2, _, _, _⟩ := A.two
  obtain ⟨c3, c4, _, _, _⟩ := B.two
  obtain ⟨c5, c6, _, _, _⟩ := R1.two
  obtain ⟨c7, c8, _, _, _⟩ := R2.two
  obtain ⟨c9, c10, _, _, _⟩ := R3.two
  obtain ⟨c11, c12, _, _, _⟩ := R4.two
  obtain ⟨c13, c14, _, _, _⟩ := R5.two
  go_wp2_with fail
  clear c1 c2 c3 c4 c5 c6 c7 c8 c9 c10 c11 c12 c13 c14
  refine (G2.out _).mono ?_
  rintro e w7 ⟨rfl, k7⟩
  replace A := A.step k7
  replace B := B.step k7
  replace R1 := R1.step k7
  replace R2 := R2.step k7
  replace R3 := R3.step k7
  replace R4 := R4.step k7
  replace R5 := R5.step k7
  have R6 := Has.made k7
  replace D := next1 D k7
  have z17 := lt1 k7
  clear k7
  obtain ⟨c1, c2, _, _, _⟩ := A.two
  obtain ⟨c3, c4, _, _, _⟩ := B.two
  obtain ⟨c5, c6, _, _, _⟩ := R1.two
  obtain ⟨c7, c8, _, _, _⟩ := R2.two
  obtain ⟨c9, c10, _, _, _⟩ := R3.two
  obtain ⟨c11, c12, _, _, _⟩ := R4.two
  obtain ⟨c13, c14, _, _, _⟩ := R5.two
  obtain ⟨c15, c16, _, _, _⟩ := R6.two
  go_wp2_with fail
  clear c1 c2 c3 c4 c5 c6 c7 c8 c9 c10 c11 c12 c13 c14 c15 c16
  refine (G3.out _).mono ?_
  rintro e w8 ⟨rfl, k8⟩
  replace A := A.step k8
  replace B := B.step k8
  replace R1 := R1.step k8
  replace R2 := R2.step k8
  replace R3 := R3.step k8
  replace R4 := R4.step k8
  replace R5 := R5.step k8
  replace R6 := R6.step k8
  have R7 := Has.made k8
  replace D := next1 D k8
  have z18 := lt1 k8
  clear k8
  obtain ⟨c1, c2, _, _, _⟩ := A.two
  obtain ⟨c3, c4, _, _, _⟩ := B.two
  obtain ⟨c5, c6, _, _, _⟩ := R1.two
  obtain ⟨c7, c8, _, _, _⟩ := R2.two
  obtain ⟨c9, c10, _, _, _⟩ := R3.two
  obtain ⟨c11, c12, _, _, _⟩ := R4.two
  obtain ⟨c13, c14, _, _, _⟩ := R5.two
  obtain ⟨c15, c16, _, _, _⟩ := R6.two
  obtain ⟨c17, c18, _, _, _⟩ := R7.two
  go_wp2_with fail
  refine (FracW.awake_any _ (tab_below ht (next0 D (below_alloc w8 _)))).mono ?_
  rintro e w9 ⟨rfl, k9⟩
  go_wp2_with fail
  go_ret
  exact ⟨rfl, next1 D k9⟩
end FracL2
end Go.Proofs.YtandcmlmklpckaaDoor
