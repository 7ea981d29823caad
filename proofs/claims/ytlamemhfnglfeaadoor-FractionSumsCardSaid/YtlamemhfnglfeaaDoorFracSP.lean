/- Plain facts for FractionSums: the two ways to reckon a mean agree, and a mean lies between every lower and every upper bound of its list. No program. -/
import Derived.Test.YtlamemhfnglfeaaDoorFracM
import Derived.Test.YtlamemhfnglfeaaDoorFracN
import Derived.Test.YtlamemhfnglfeaaDoorFracP
import Derived.Test.YtlamemhfnglfeaaDoorFracU
import Derived.Test.YtlamemhfnglfeaaDoorFracV
import Derived.Test.YtlamemhfnglfeaaDoorFracRM
namespace Go.Proofs.YtlamemhfnglfeaaDoor
namespace FracSP
open FracM FracN FracP FracU FracV FracRM

theorem addF_parts {a b c d : Int} (h : (addF a b c d).2.2 = 0) : vld a b = true ∧ vld c d = true := by
  unfold addF at h
  split at h
  · rename_i hv
    simpa [Bool.and_eq_true] using hv
  · simp at h

theorem addF_vld {a b c d : Int} (h : (addF a b c d).2.2 = 0) : vld (addF a b c d).1 (addF a b c d).2.1 = true := by
  obtain ⟨h1, h2⟩ := addF_parts h
  rw [addF_ok h1 h2] at h ⊢
  exact (mk_vld h).1

theorem sumL_vld : ∀ (l : List (Int × Int)) (x y : Int), vld x y = true → (sumL l x y).2.2 = 0 → vld (sumL l x y).1 (sumL l x y).2.1 = true
  | [], x, y, h, _ => h
  | p :: ps, x, y, h, hz => by
    unfold sumL at hz ⊢
    by_cases hc : (addF x y p.1 p.2).2.2 = 0
    · rw [if_pos hc] at hz ⊢
      exact sumL_vld ps _ _ (addF_vld hc) hz
    · rw [if_neg hc] at hz
      exact absurd hz hc

theorem vld_01 : vld 0 1 = true := by decide
theorem vld_n1 {n : Int} (h0 : 0 ≤ n) (h1 : n ≤ 60) : vld n 1 = true := by
  rw [vld_iff]
  refine ⟨by omega, by omega, by omega, by omega, ?_⟩
  unfold gg
  simp

theorem mean_eq (l : List (Int × Int)) (hl : l.length ≤ 60) : meanR l = meanL l := by
  unfold meanR meanL
  by_cases h0 : l.length = 0
  · rw [if_pos h0, if_pos h0]
  · rw [if_neg h0, if_neg h0]
    by_cases hz : (sumL l 0 1).2.2 = 0
    · rw [if_pos hz, if_pos hz, divF_ok (sumL_vld l 0 1 vld_01 hz) (vld_n1 (by omega) (by omega)) (by omega)]
      rw [Int.mul_one]
    · rw [if_neg hz, if_neg hz]

/-- A lower bound (c, d) of the list, k times, below (x, y): so it stays along the sum. -/
theorem sum_ge {c d : Int} (hcd : vld c d = true) : ∀ (l : List (Int × Int)) (x y k : Int), vld x y = true → k * c * y ≤ x * d → (∀ p ∈ l, cmpF c d p.1 p.2 ≤ 0) → (sumL l x y).2.2 = 0 →
    (k + (l.length : Int)) * c * (sumL l x y).2.1 ≤ (sumL l x y).1 * d
  | [], x, y, k, _, h, _, _ => by simpa [sumL] using h
  | p :: ps, x, y, k, hv, h, hb, hz => by
    unfold sumL at hz ⊢
    by_cases hc : (addF x y p.1 p.2).2.2 = 0
    · rw [if_pos hc] at hz ⊢
      obtain ⟨_, h2⟩ := addF_parts hc
      have hv1 := addF_vld hc
      have hcr : (addF x y p.1 p.2).1 * (y * p.2) = (x * p.2 + p.1 * y) * (addF x y p.1 p.2).2.1 := by
        have hc' := hc
        rw [addF_ok hv h2] at hc' ⊢
        exact mk_cross hc'
      generalize addF x y p.1 p.2 = r at *
      obtain ⟨x1, y1, z⟩ := r
      dsimp only at *
      have py := (vld_in hv).2.2
      have pp := (vld_in h2).2.2
      have py1 := (vld_in hv1).2.2
      have hp := cmp_le.1 (hb p (by simp))
      have k1 : k * c * y * p.2 ≤ x * d * p.2 := Int.mul_le_mul_of_nonneg_right h (by omega)
      have k2 : c * p.2 * y ≤ p.1 * d * y := Int.mul_le_mul_of_nonneg_right hp (by omega)
      have k3 : (k + 1) * c * (y * p.2) ≤ (x * p.2 + p.1 * y) * d := by
        have e1 : (k + 1) * c * (y * p.2) = k * c * y * p.2 + c * p.2 * y := by grind
        have e2 : (x * p.2 + p.1 * y) * d = x * d * p.2 + p.1 * d * y := by grind
        omega
      have k4 : (k + 1) * c * (y * p.2) * y1 ≤ (x * p.2 + p.1 * y) * d * y1 := Int.mul_le_mul_of_nonneg_right k3 (by omega)
      have k5 : (k + 1) * c * y1 * (y * p.2) ≤ x1 * d * (y * p.2) := by
        have e1 : (k + 1) * c * y1 * (y * p.2) = (k + 1) * c * (y * p.2) * y1 := by grind
        have e2 : x1 * d * (y * p.2) = (x1 * (y * p.2)) * d := by grind
        rw [e1, e2, hcr]
        have e3 : (x * p.2 + p.1 * y) * y1 * d = (x * p.2 + p.1 * y) * d * y1 := by grind
        rw [e3]
        exact k4
      have k6 := (mul_le_mul_pos (Int.mul_pos (by omega) (by omega))).1 k5
      have := sum_ge hcd ps x1 y1 (k + 1) hv1 k6 (fun q hq => hb q (by simp [hq])) hz
      have e : k + ((p :: ps).length : Int) = k + 1 + (ps.length : Int) := by simp; omega
      rw [e]
      exact this
    · rw [if_neg hc] at hz
      exact absurd hz hc

/-- An upper bound, the same. -/
theorem sum_le {c d : Int} (hcd : vld c d = true) : ∀ (l : List (Int × Int)) (x y k : Int), vld x y = true → x * d ≤ k * c * y → (∀ p ∈ l, cmpF p.1 p.2 c d ≤ 0) → (sumL l x y).2.2 = 0 →
    (sumL l x y).1 * d ≤ (k + (l.length : Int)) * c * (sumL l x y).2.1
  | [], x, y, k, _, h, _, _ => by simpa [sumL] using h
  | p :: ps, x, y, k, hv, h, hb, hz => by
    unfold sumL at hz ⊢
    by_cases hc : (addF x y p.1 p.2).2.2 = 0
    · rw [if_pos hc] at hz ⊢
      obtain ⟨_, h2⟩ := addF_parts hc
      have hv1 := addF_vld hc
      have hcr : (addF x y p.1 p.2).1 * (y * p.2) = (x * p.2 + p.1 * y) * (addF x y p.1 p.2).2.1 := by
        have hc' := hc
        rw [addF_ok hv h2] at hc' ⊢
        exact mk_cross hc'
      generalize addF x y p.1 p.2 = r at *
      obtain ⟨x1, y1, z⟩ := r
      dsimp only at *
      have py := (vld_in hv).2.2
      have pp := (vld_in h2).2.2
      have py1 := (vld_in hv1).2.2
      have hp := cmp_le.1 (hb p (by simp))
      have k1 : x * d * p.2 ≤ k * c * y * p.2 := Int.mul_le_mul_of_nonneg_right h (by omega)
      have k2 : p.1 * d * y ≤ c * p.2 * y := Int.mul_le_mul_of_nonneg_right hp (by omega)
      have k3 : (x * p.2 + p.1 * y) * d ≤ (k + 1) * c * (y * p.2) := by
        have e1 : (k + 1) * c * (y * p.2) = k * c * y * p.2 + c * p.2 * y := by grind
        have e2 : (x * p.2 + p.1 * y) * d = x * d * p.2 + p.1 * d * y := by grind
        omega
      have k4 : (x * p.2 + p.1 * y) * d * y1 ≤ (k + 1) * c * (y * p.2) * y1 := Int.mul_le_mul_of_nonneg_right k3 (by omega)
      have k5 : x1 * d * (y * p.2) ≤ (k + 1) * c * y1 * (y * p.2) := by
        have e1 : (k + 1) * c * y1 * (y * p.2) = (k + 1) * c * (y * p.2) * y1 := by grind
        have e2 : x1 * d * (y * p.2) = (x1 * (y * p.2)) * d := by grind
        rw [e1, e2, hcr]
        have e3 : (x * p.2 + p.1 * y) * y1 * d = (x * p.2 + p.1 * y) * d * y1 := by grind
        rw [e3]
        exact k4
      have k6 := (mul_le_mul_pos (Int.mul_pos (by omega) (by omega))).1 k5
      have := sum_le hcd ps x1 y1 (k + 1) hv1 k6 (fun q hq => hb q (by simp [hq])) hz
      have e : k + ((p :: ps).length : Int) = k + 1 + (ps.length : Int) := by simp; omega
      rw [e]
      exact this
    · rw [if_neg hc] at hz
      exact absurd hz hc

/-- A mean that is no error lies between a lower and an upper bound of its list. -/
theorem mean_between {l : List (Int × Int)} (hm : (meanL l).2.2 = 0) {c d : Int} (hcd : vld c d = true) :
    ((∀ p ∈ l, cmpF c d p.1 p.2 ≤ 0) → cmpF c d (meanL l).1 (meanL l).2.1 ≤ 0) ∧ ((∀ p ∈ l, cmpF p.1 p.2 c d ≤ 0) → cmpF (meanL l).1 (meanL l).2.1 c d ≤ 0) := by
  unfold meanL at hm ⊢
  by_cases h0 : l.length = 0
  · rw [if_pos h0] at hm
    simp at hm
  · rw [if_neg h0] at hm ⊢
    by_cases hz : (sumL l 0 1).2.2 = 0
    · rw [if_pos hz] at hm ⊢
      have hs := sumL_vld l 0 1 vld_01 hz
      have hge := fun h => sum_ge hcd l 0 1 0 vld_01 (by omega) h hz
      have hle := fun h => sum_le hcd l 0 1 0 vld_01 (by omega) h hz
      generalize sumL l 0 1 = s at *
      obtain ⟨x, y, z⟩ := s
      dsimp only at *
      have py := (vld_in hs).2.2
      have hc := mk_cross hm
      have hv := (mk_vld hm).1
      have pv := (vld_in hv).2.2
      have pd := (vld_in hcd).2.2
      have hn : 0 < y * (l.length : Int) := Int.mul_pos (by omega) (by omega)
      generalize mk x (y * (l.length : Int)) = r at *
      obtain ⟨a, b, e⟩ := r
      dsimp only at *
      generalize (l.length : Int) = n at *
      constructor
      · intro h
        have k0 := hge h
        rw [Int.zero_add] at k0
        rw [cmp_le]
        have k1 : n * c * y * b ≤ x * d * b := Int.mul_le_mul_of_nonneg_right k0 (by omega)
        have k2 : (c * b) * (y * n) ≤ (a * d) * (y * n) := by
          have e1 : (c * b) * (y * n) = n * c * y * b := by grind
          have e2 : (a * d) * (y * n) = (a * (y * n)) * d := by grind
          rw [e1, e2, hc]
          have e3 : x * b * d = x * d * b := by grind
          rw [e3]
          exact k1
        exact (mul_le_mul_pos hn).1 k2
      · intro h
        have k0 := hle h
        rw [Int.zero_add] at k0
        rw [cmp_le]
        have k1 : x * d * b ≤ n * c * y * b := Int.mul_le_mul_of_nonneg_right k0 (by omega)
        have k2 : (a * d) * (y * n) ≤ (c * b) * (y * n) := by
          have e1 : (c * b) * (y * n) = n * c * y * b := by grind
          have e2 : (a * d) * (y * n) = (a * (y * n)) * d := by grind
          rw [e1, e2, hc]
          have e3 : x * b * d = x * d * b := by grind
          rw [e3]
          exact k1
        exact (mul_le_mul_pos hn).1 k2
    · rw [if_neg hz] at hm
      exact absurd hm hz

/-- A mean that is no error has valid members only. -/
theorem sum_all : ∀ (l : List (Int × Int)) (x y : Int), (sumL l x y).2.2 = 0 → ∀ p ∈ l, vld p.1 p.2 = true
  | [], _, _, _, p, h => by simp at h
  | q :: ps, x, y, hz, p, h => by
    unfold sumL at hz
    by_cases hc : (addF x y q.1 q.2).2.2 = 0
    · rw [if_pos hc] at hz
      rcases List.mem_cons.1 h with rfl | h
      · exact (addF_parts hc).2
      · exact sum_all ps _ _ hz p h
    · rw [if_neg hc] at hz
      exact absurd hz hc
theorem mean_all {l : List (Int × Int)} (hm : (meanL l).2.2 = 0) : (sumL l 0 1).2.2 = 0 ∧ ¬ l.length = 0 := by
  unfold meanL at hm
  by_cases h0 : l.length = 0
  · rw [if_pos h0] at hm
    simp at hm
  · rw [if_neg h0] at hm
    by_cases hz : (sumL l 0 1).2.2 = 0
    · exact ⟨hz, h0⟩
    · rw [if_neg hz] at hm
      exact absurd hm hz
end FracSP
end Go.Proofs.YtlamemhfnglfeaaDoor
