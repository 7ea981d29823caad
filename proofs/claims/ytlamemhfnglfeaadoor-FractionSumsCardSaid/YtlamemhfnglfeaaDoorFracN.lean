/- Plain facts on fractions: the value decides the lowest terms; commutativity, inverses, distribution, order. No Go text in this file. No conditions. -/
import Derived.Test.YtlamemhfnglfeaaDoorFracM
namespace Go.Proofs.YtlamemhfnglfeaaDoor
namespace FracN
open FracM

theorem cop_unique {m n p q : Nat} (h : m * q = p * n) (h1 : Nat.gcd m n = 1) (h2 : Nat.gcd p q = 1) : m = p ∧ n = q := by
  have c1 : Nat.Coprime m n := h1
  have c2 : Nat.Coprime p q := h2
  have d1 : m ∣ p := c1.dvd_of_dvd_mul_right (h ▸ Nat.dvd_mul_right m q)
  have d2 : p ∣ m := c2.dvd_of_dvd_mul_right (h ▸ Nat.dvd_mul_right p n)
  have e1 : m = p := Nat.dvd_antisymm d1 d2
  subst e1
  refine ⟨rfl, ?_⟩
  rcases Nat.eq_zero_or_pos m with h0 | h0
  · subst h0
    rw [Nat.gcd_zero_left] at h1 h2
    omega
  · exact (Nat.eq_of_mul_eq_mul_left h0 h).symm

theorem sign_if {x : Int} (h : x ≠ 0) : x.sign = if x < 0 then -1 else 1 := by
  split
  · exact Int.sign_eq_neg_one_of_neg (by omega)
  · exact Int.sign_eq_one_of_pos (by omega)

theorem mk_ratio {a b c d : Int} (hb : ¬ b = 0) (hd : ¬ d = 0) (h : a * d = c * b) : mk a b = mk c d := by
  have e0 : a.natAbs * d.natAbs = c.natAbs * b.natAbs := by rw [← Int.natAbs_mul, ← Int.natAbs_mul, h]
  have g1 := gg_pos (a := a) hb
  have g2 := gg_pos (a := c) hd
  have n1 := mkN_mul a b
  have n2 := mkD_mul a b
  have n3 := mkN_mul c d
  have n4 := mkD_mul c d
  have e1 : mkN a b * mkD c d = mkN c d * mkD a b := by
    have e2 : (mkN a b * mkD c d) * (gg a b * gg c d) = (mkN c d * mkD a b) * (gg a b * gg c d) := by
      rw [← n1, ← n2, ← n3, ← n4] at e0
      grind
    exact Nat.eq_of_mul_eq_mul_right (Nat.mul_pos g1 g2) e2
  obtain ⟨eN, eD⟩ := cop_unique e1 (gcd_one hb) (gcd_one hd)
  have eB : big a b = big c d := by unfold big; rw [eN, eD]
  have eS : mkS a b = mkS c d := by
    unfold mkS
    rw [eN]
    by_cases h0 : mkN c d = 0
    · rw [h0]; simp
    · have ha : a ≠ 0 := by
        intro h1
        subst h1
        have : mkN 0 b = 0 := by unfold mkN; simp
        omega
      have hc : c ≠ 0 := by
        intro h1
        subst h1
        have : mkN 0 d = 0 := by unfold mkN; simp
        omega
      have hs : a.sign * d.sign = c.sign * b.sign := by rw [← Int.sign_mul, ← Int.sign_mul, h]
      have en : neg a b = neg c d := by
        rw [sign_if ha, sign_if hb, sign_if hc, sign_if hd] at hs
        unfold neg
        by_cases s1 : a < 0 <;> by_cases s2 : b < 0 <;> by_cases s3 : c < 0 <;> by_cases s4 : d < 0
        all_goals
          simp only [s1, s2, s3, s4, if_true, if_false] at hs
          first
            | omega
            | simp [s1, s2, s3, s4]
      rw [en]
  unfold mk
  rw [if_neg hb, if_neg hd, eB, eS, eD]

theorem mk_cross {a b : Int} (h : (mk a b).2.2 = 0) : (mk a b).1 * b = a * (mk a b).2.1 := by
  obtain ⟨hv, hb⟩ := mk_vld h
  obtain ⟨_, _, h1⟩ := vld_in hv
  by_cases hb' : big a b = true
  · rw [mk_big hb hb'] at h; simp at h
  · have hb' : big a b = false := by simpa using hb'
    rw [mk_ok hb hb']
    show mkS a b * b = a * ((mkD a b : Nat) : Int)
    have n1 := mkN_mul a b
    have n2 := mkD_mul a b
    have e1 : a.natAbs * mkD a b = mkN a b * b.natAbs := by rw [← n1, ← n2]; grind
    have e2 : ((a.natAbs * mkD a b : Nat) : Int) = ((mkN a b * b.natAbs : Nat) : Int) := by rw [e1]
    rw [Int.natCast_mul, Int.natCast_mul] at e2
    unfold mkS neg
    by_cases s1 : a < 0 <;> by_cases s2 : b < 0
    · rw [if_neg (by simp [s1, s2])]; rw [show ((a.natAbs : Nat) : Int) = -a by omega, show ((b.natAbs : Nat) : Int) = -b by omega] at e2; grind
    · rw [if_pos (by simp [s1, s2])]; rw [show ((a.natAbs : Nat) : Int) = -a by omega, show ((b.natAbs : Nat) : Int) = b by omega] at e2; grind
    · rw [if_pos (by simp [s1, s2])]; rw [show ((a.natAbs : Nat) : Int) = a by omega, show ((b.natAbs : Nat) : Int) = -b by omega] at e2; grind
    · rw [if_neg (by simp [s1, s2])]; rw [show ((a.natAbs : Nat) : Int) = a by omega, show ((b.natAbs : Nat) : Int) = b by omega] at e2; grind

theorem add_comm (a b c d : Int) : addF a b c d = addF c d a b := by
  unfold addF
  rw [Bool.and_comm, Int.add_comm (a * d), Int.mul_comm b d]
theorem mul_comm (a b c d : Int) : mulF a b c d = mulF c d a b := by
  unfold mulF
  rw [Bool.and_comm, Int.mul_comm a c, Int.mul_comm b d]

theorem addF_ok {a b c d : Int} (h1 : vld a b = true) (h2 : vld c d = true) : addF a b c d = mk (a * d + c * b) (b * d) := by unfold addF; rw [h1, h2]; rfl
theorem subF_ok {a b c d : Int} (h1 : vld a b = true) (h2 : vld c d = true) : subF a b c d = mk (a * d - c * b) (b * d) := by unfold subF; rw [h1, h2]; rfl
theorem mulF_ok {a b c d : Int} (h1 : vld a b = true) (h2 : vld c d = true) : mulF a b c d = mk (a * c) (b * d) := by unfold mulF; rw [h1, h2]; rfl
theorem divF_ok {a b c d : Int} (h1 : vld a b = true) (h2 : vld c d = true) (hc : ¬ c = 0) : divF a b c d = mk (a * d) (b * c) := by unfold divF; rw [h1, h2]; simp [hc]
theorem den_ne {a b : Int} (h : vld a b = true) : ¬ b = 0 := by have := vld_in h; omega
theorem mul_ne {a b : Int} (h1 : ¬ a = 0) (h2 : ¬ b = 0) : ¬ a * b = 0 := Int.mul_ne_zero h1 h2

theorem sub_back {a b c d : Int} (h1 : vld a b = true) (h2 : vld c d = true) (h : (addF a b c d).2.2 = 0) : subF (addF a b c d).1 (addF a b c d).2.1 c d = (a, b, 0) := by
  rw [addF_ok h1 h2] at h ⊢
  have hv := (mk_vld h).1
  have hx := mk_cross h
  rw [subF_ok hv h2, ← mk_of_vld h1]
  generalize (mk (a * d + c * b) (b * d)).1 = x at hx hv ⊢
  generalize (mk (a * d + c * b) (b * d)).2.1 = y at hx hv ⊢
  exact mk_ratio (mul_ne (den_ne hv) (den_ne h2)) (den_ne h1) (by grind)
theorem div_back {a b c d : Int} (h1 : vld a b = true) (h2 : vld c d = true) (hc : ¬ c = 0) (h : (mulF a b c d).2.2 = 0) : divF (mulF a b c d).1 (mulF a b c d).2.1 c d = (a, b, 0) := by
  rw [mulF_ok h1 h2] at h ⊢
  have hv := (mk_vld h).1
  have hx := mk_cross h
  rw [divF_ok hv h2 hc, ← mk_of_vld h1]
  generalize (mk (a * c) (b * d)).1 = x at hx hv ⊢
  generalize (mk (a * c) (b * d)).2.1 = y at hx hv ⊢
  exact mk_ratio (mul_ne (den_ne hv) hc) (den_ne h1) (by grind)

/-- (a + b) c against a c + b c: where both products and the sum are there, the right side is there and equal to the left one. -/
theorem distrib {a b c d e f : Int} (h1 : vld a b = true) (h2 : vld c d = true) (h3 : vld e f = true) (hs : (addF a b c d).2.2 = 0)
    (hx : (mulF a b e f).2.2 = 0) (hy : (mulF c d e f).2.2 = 0) :
    addF (mulF a b e f).1 (mulF a b e f).2.1 (mulF c d e f).1 (mulF c d e f).2.1 = mulF (addF a b c d).1 (addF a b c d).2.1 e f := by
  rw [addF_ok h1 h2] at hs ⊢
  rw [mulF_ok h1 h3] at hx ⊢
  rw [mulF_ok h2 h3] at hy ⊢
  have vs := (mk_vld hs).1
  have vx := (mk_vld hx).1
  have vy := (mk_vld hy).1
  have cs := mk_cross hs
  have cx := mk_cross hx
  have cy := mk_cross hy
  rw [mulF_ok vs h3, addF_ok vx vy]
  clear hs hx hy
  generalize (mk (a * d + c * b) (b * d)).1 = s at cs vs ⊢
  generalize (mk (a * d + c * b) (b * d)).2.1 = t at cs vs ⊢
  generalize (mk (a * e) (b * f)).1 = x at cx vx ⊢
  generalize (mk (a * e) (b * f)).2.1 = y at cx vx ⊢
  generalize (mk (c * e) (d * f)).1 = u at cy vy ⊢
  generalize (mk (c * e) (d * f)).2.1 = v at cy vy ⊢
  have nb := den_ne h1
  have nd := den_ne h2
  have nf := den_ne h3
  refine mk_ratio (mul_ne (den_ne vx) (den_ne vy)) (mul_ne (den_ne vs) nf) ?_
  have key : ((x * v + u * y) * (t * f)) * (b * d * f) = ((s * e) * (y * v)) * (b * d * f) := by grind
  exact Int.eq_of_mul_eq_mul_right (mul_ne (mul_ne nb nd) nf) key
end FracN
end Go.Proofs.YtlamemhfnglfeaaDoor
