/- Plain facts on the order of fractions and on rounding. No Go text in this file. No conditions. -/
import Derived.Test.YtlamemhfnglfeaaDoorFracN
namespace Go.Proofs.YtlamemhfnglfeaaDoor
namespace FracP
open FracM FracN

/-- What Compare answers. -/
def cmpF (a b c d : Int) : Int := if a * d < c * b then -1 else if c * b < a * d then 1 else 0
theorem cmp_le {a b c d : Int} : cmpF a b c d ≤ 0 ↔ a * d ≤ c * b := by
  unfold cmpF
  split
  · omega
  · split <;> omega
theorem cmp_in (a b c d : Int) : cmpF a b c d = -1 ∨ cmpF a b c d = 0 ∨ cmpF a b c d = 1 := by
  unfold cmpF
  split
  · omega
  · split <;> omega
theorem cmp_swap (a b c d : Int) : cmpF c d a b = -cmpF a b c d := by
  unfold cmpF
  split <;> split <;> (try split) <;> omega
theorem cmp_neg {a b c d : Int} : cmpF a b c d < 0 ↔ a * d < c * b := by
  unfold cmpF
  split
  · omega
  · split <;> omega
theorem cmp_zero {a b c d : Int} : cmpF a b c d = 0 ↔ a * d = c * b := by
  unfold cmpF
  split
  · omega
  · split <;> omega
theorem cmp_same {a b c d : Int} (h1 : vld a b = true) (h2 : vld c d = true) (h : cmpF a b c d = 0) : a = c ∧ b = d := by
  have e := mk_ratio (den_ne h1) (den_ne h2) (cmp_zero.1 h)
  rw [mk_of_vld h1, mk_of_vld h2] at e
  simp at e
  exact e
theorem mul_le_mul_pos {x y k : Int} (hk : 0 < k) : x * k ≤ y * k ↔ x ≤ y := Int.mul_le_mul_right hk
/-- Compare is transitive. -/
theorem cmp_trans {a b c d e f : Int} (h1 : vld a b = true) (h2 : vld c d = true) (h3 : vld e f = true) (hx : cmpF a b c d ≤ 0) (hy : cmpF c d e f ≤ 0) : cmpF a b e f ≤ 0 := by
  rw [cmp_le] at *
  have pb := (vld_in h1).2.2
  have pd := (vld_in h2).2.2
  have pf := (vld_in h3).2.2
  have k1 : a * d * f ≤ c * b * f := Int.mul_le_mul_of_nonneg_right hx (by omega)
  have k2 : c * f * b ≤ e * d * b := Int.mul_le_mul_of_nonneg_right hy (by omega)
  have k3 : (a * f) * d ≤ (e * b) * d := by
    have e1 : (a * f) * d = a * d * f := by grind
    have e2 : (e * b) * d = e * d * b := by grind
    have e3 : c * b * f = c * f * b := by grind
    omega
  exact (mul_le_mul_pos (by omega)).1 k3

/-- A rounded fraction differs by at most half a step. -/
theorem round_near {n d den x y s1 s2 m1 m2 k : Int} (hd : 0 < d) (hy : ¬ y = 0) (hs2 : ¬ s2 = 0) (hm2 : 0 < m2)
    (cx : x * den = k * y) (cs : s1 * (y * d) = (x * d - n * y) * s2) (cm : m1 * (s2 * 1) = (s1 * 2) * m2) (hk0 : -d ≤ 2 * (k * d - n * den)) (hk1 : 2 * (k * d - n * den) ≤ d) :
    (-m1) * den ≤ 1 * m2 ∧ m1 * den ≤ 1 * m2 := by
  have key : (m1 * den * d) * (y * s2) = (2 * (k * d - n * den) * m2) * (y * s2) := by grind
  have key2 : m1 * den * d = 2 * (k * d - n * den) * m2 := Int.eq_of_mul_eq_mul_right (mul_ne hy hs2) key
  have u1 : 2 * (k * d - n * den) * m2 ≤ d * m2 := Int.mul_le_mul_of_nonneg_right hk1 (by omega)
  have u2 : (-d) * m2 ≤ 2 * (k * d - n * den) * m2 := Int.mul_le_mul_of_nonneg_right hk0 (by omega)
  constructor
  · have : ((-m1) * den) * d ≤ (1 * m2) * d := by
      have e1 : ((-m1) * den) * d = -(m1 * den * d) := by grind
      have e2 : (1 * m2) * d = -((-d) * m2) := by grind
      omega
    exact (mul_le_mul_pos hd).1 this
  · have : (m1 * den) * d ≤ (1 * m2) * d := by
      have e2 : (1 * m2) * d = d * m2 := by grind
      omega
    exact (mul_le_mul_pos hd).1 this
end FracP
end Go.Proofs.YtlamemhfnglfeaaDoor
