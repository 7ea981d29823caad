/- Plain facts on fractions: lowest terms, validity, the four operations, order, rounding. No Go text in this file. No conditions. -/
import Derived.WalkKit
namespace Go.Proofs.YtlamemhfnglfeaaDoor
namespace FracM

/-- The divisor, the lowest terms without their sign, and the sign. -/
def gg (a b : Int) : Nat := Nat.gcd a.natAbs b.natAbs
def mkN (a b : Int) : Nat := a.natAbs / gg a b
def mkD (a b : Int) : Nat := b.natAbs / gg a b
def neg (a b : Int) : Bool := decide (a < 0) != decide (b < 0)
def mkS (a b : Int) : Int := if neg a b = true then -(mkN a b : Int) else (mkN a b : Int)
def big (a b : Int) : Bool := decide (1073741824 < mkN a b) || decide (1073741824 < mkD a b)
/-- What Make answers: numerator, denominator, error. -/
def mk (a b : Int) : Int × Int × Int := if b = 0 then (0, 0, 13) else if big a b = true then (0, 0, 12) else (mkS a b, (mkD a b : Int), 0)

theorem mk_zero {a b : Int} (h : b = 0) : mk a b = (0, 0, 13) := by simp [mk, h]
theorem mk_big {a b : Int} (h : ¬ b = 0) (hb : big a b = true) : mk a b = (0, 0, 12) := by simp [mk, h, hb]
theorem mk_ok {a b : Int} (h : ¬ b = 0) (hb : big a b = false) : mk a b = (mkS a b, (mkD a b : Int), 0) := by simp [mk, h, hb]
theorem gg_pos {a b : Int} (h : ¬ b = 0) : 1 ≤ gg a b := by
  unfold gg
  have : 0 < Nat.gcd a.natAbs b.natAbs := Nat.gcd_pos_of_pos_right _ (by omega)
  omega
theorem gg_le {a b : Int} (h : ¬ b = 0) : gg a b ≤ b.natAbs := by
  unfold gg; exact Nat.gcd_le_right _ (by omega)
theorem mkN_le (a b : Int) : mkN a b ≤ a.natAbs := Nat.div_le_self _ _
theorem mkD_le (a b : Int) : mkD a b ≤ b.natAbs := Nat.div_le_self _ _
theorem big_false {a b : Int} (h : big a b = false) : mkN a b ≤ 1073741824 ∧ mkD a b ≤ 1073741824 := by
  unfold big at h; simp at h; omega
theorem mkN_mul (a b : Int) : mkN a b * gg a b = a.natAbs := Nat.div_mul_cancel (Nat.gcd_dvd_left _ _)
theorem mkD_mul (a b : Int) : mkD a b * gg a b = b.natAbs := Nat.div_mul_cancel (Nat.gcd_dvd_right _ _)
theorem mkD_pos {a b : Int} (h : ¬ b = 0) : 1 ≤ mkD a b := by
  have := mkD_mul a b
  rcases Nat.eq_zero_or_pos (mkD a b) with h0 | h0
  · rw [h0] at this; omega
  · omega

theorem gcd_one {a b : Int} (h : ¬ b = 0) : Nat.gcd (mkN a b) (mkD a b) = 1 := by
  have e := Nat.gcd_mul_right (mkN a b) (gg a b) (mkD a b)
  rw [mkN_mul, mkD_mul] at e
  have e2 : gg a b = Nat.gcd (mkN a b) (mkD a b) * gg a b := e
  have hp := gg_pos (a := a) h
  exact Nat.eq_of_mul_eq_mul_right (by omega : 0 < gg a b) (by rw [← e2, Nat.one_mul])

/-- Validity. -/
def vld (n d : Int) : Bool := decide (1 ≤ d) && decide (d ≤ 1073741824) && decide (-1073741824 ≤ n) && decide (n ≤ 1073741824) && decide (gg n d = 1)
theorem vld_iff {n d : Int} : vld n d = true ↔ 1 ≤ d ∧ d ≤ 1073741824 ∧ -1073741824 ≤ n ∧ n ≤ 1073741824 ∧ gg n d = 1 := by
  unfold vld; simp [and_assoc]
theorem mk_of_vld {n d : Int} (h : vld n d = true) : mk n d = (n, d, 0) := by
  obtain ⟨h1, h2, h3, h4, h5⟩ := vld_iff.1 h
  have e1 : mkN n d = n.natAbs := by unfold mkN; rw [h5, Nat.div_one]
  have e2 : mkD n d = d.natAbs := by unfold mkD; rw [h5, Nat.div_one]
  have hb : big n d = false := by unfold big; rw [e1, e2]; simp; omega
  rw [mk_ok (by omega) hb, e2]
  have e3 : mkS n d = n := by
    unfold mkS neg; rw [e1]
    have : decide (d < 0) = false := by simp; omega
    rw [this]
    by_cases hn : n < 0
    · simp [hn]; omega
    · simp [hn]; omega
  rw [e3]
  simp; omega
theorem mk_vld {a b : Int} (h : (mk a b).2.2 = 0) : vld (mk a b).1 (mk a b).2.1 = true ∧ ¬ b = 0 := by
  by_cases hb0 : b = 0
  · rw [mk_zero hb0] at h; simp at h
  · refine ⟨?_, hb0⟩
    by_cases hb : big a b = true
    · rw [mk_big hb0 hb] at h; simp at h
    · have hb : big a b = false := by simpa using hb
      rw [mk_ok hb0 hb]
      obtain ⟨h1, h2⟩ := big_false hb
      have h3 := mkD_pos (a := a) hb0
      have hs : (mkS a b).natAbs = mkN a b := by unfold mkS; split <;> omega
      refine vld_iff.2 ⟨by simp; omega, by simp; omega, ?_, ?_, ?_⟩
      · show -1073741824 ≤ mkS a b; omega
      · show mkS a b ≤ 1073741824; omega
      · show gg (mkS a b) (mkD a b : Int) = 1
        unfold gg; rw [hs, Int.natAbs_natCast]
        exact gcd_one hb0
/-- 'Make gives the fraction itself': what the code's Valid asks. -/
theorem vld_mk (n d : Int) : vld n d = (decide ((mk n d).2.2 = 0) && (decide (n = (mk n d).1) && decide (d = (mk n d).2.1))) := by
  by_cases h : vld n d = true
  · rw [h, mk_of_vld h]; simp
  · have h' : vld n d = false := by simpa using h
    rw [h']
    symm
    rw [Bool.eq_false_iff]
    intro hc
    simp at hc
    obtain ⟨h1, h2, h3⟩ := hc
    have := (mk_vld h1).1
    rw [← h2, ← h3] at this
    exact h this

theorem mul_in {x y : Int} {B C : Nat} (hx : -(B : Int) ≤ x ∧ x ≤ B) (hy : -(C : Int) ≤ y ∧ y ≤ C) : -((B * C : Nat) : Int) ≤ x * y ∧ x * y ≤ ((B * C : Nat) : Int) := by
  have h := Nat.mul_le_mul (show x.natAbs ≤ B by omega) (show y.natAbs ≤ C by omega)
  have e : (x * y).natAbs = x.natAbs * y.natAbs := Int.natAbs_mul x y
  omega
theorem mul_in30 {x y : Int} (hx : -1073741824 ≤ x ∧ x ≤ 1073741824) (hy : -1073741824 ≤ y ∧ y ≤ 1073741824) : -1152921504606846976 ≤ x * y ∧ x * y ≤ 1152921504606846976 := by
  have h := mul_in (B := 1073741824) (C := 1073741824) hx hy
  omega
theorem vld_in {n d : Int} (h : vld n d = true) : (-1073741824 ≤ n ∧ n ≤ 1073741824) ∧ (-1073741824 ≤ d ∧ d ≤ 1073741824) ∧ 1 ≤ d := by
  obtain ⟨h1, h2, h3, h4, h5⟩ := vld_iff.1 h
  omega

theorem mk_in (a b : Int) : (-1073741824 ≤ (mk a b).1 ∧ (mk a b).1 ≤ 1073741824) ∧ -1073741824 ≤ (mk a b).2.1 ∧ (mk a b).2.1 ≤ 1073741824 := by
  by_cases hz : (mk a b).2.2 = 0
  · have := vld_in (mk_vld hz).1
    exact ⟨this.1, this.2.1⟩
  · by_cases h : b = 0
    · rw [mk_zero h]; simp
    · by_cases hb : big a b = true
      · rw [mk_big h hb]; simp
      · have hb : big a b = false := by simpa using hb
        rw [mk_ok h hb] at hz
        exact absurd rfl hz

theorem mk_err (a b : Int) : (mk a b).2.2 = 0 ∨ (mk a b).2.2 = 12 ∨ (mk a b).2.2 = 13 := by
  unfold mk
  split
  · exact Or.inr (Or.inr rfl)
  · split
    · exact Or.inr (Or.inl rfl)
    · exact Or.inl rfl

/-- What the four operations answer. -/
def addF (a b c d : Int) : Int × Int × Int := if (vld a b && vld c d) = true then mk (a * d + c * b) (b * d) else (0, 0, 13)
def subF (a b c d : Int) : Int × Int × Int := if (vld a b && vld c d) = true then mk (a * d - c * b) (b * d) else (0, 0, 13)
def mulF (a b c d : Int) : Int × Int × Int := if (vld a b && vld c d) = true then mk (a * c) (b * d) else (0, 0, 13)
def divF (a b c d : Int) : Int × Int × Int := if (vld a b && vld c d) = true then (if c = 0 then (0, 0, 12) else mk (a * d) (b * c)) else (0, 0, 13)
end FracM
end Go.Proofs.YtlamemhfnglfeaaDoor
