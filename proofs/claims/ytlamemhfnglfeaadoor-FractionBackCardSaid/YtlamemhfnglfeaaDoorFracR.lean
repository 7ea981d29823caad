/- Plain facts on rounding, and the contracts of nearest and Round in the package and in the reference (layer 2). No conditions. -/
import Derived.Test.YtlamemhfnglfeaaDoorKit
import Derived.Test.YtlamemhfnglfeaaDoorFracC
import Derived.Test.YtlamemhfnglfeaaDoorFracD
import Derived.Test.YtlamemhfnglfeaaDoorFracE
namespace Go.Proofs.YtlamemhfnglfeaaDoor
open Go Go.RowKit
namespace FracR
open Kit FracM
open FracB (fr)

/-- The integer nearest to a/b, halves away from zero. -/
def near (a b : Int) : Int := if a < 0 then -((2 * (-a) + b) / (2 * b)) else (2 * a + b) / (2 * b)
/-- What Round answers. -/
def roundF (n d den : Int) : Int × Int × Int := if vld n d = true then (if den < 1 ∨ 1073741824 < den then (0, 0, 12) else mk (near (n * den) d) den) else (0, 0, 13)

theorem near_pos_in {a b : Int} (h0 : 0 ≤ a) (h1 : a ≤ 1152921504606846976) (hb : 1 ≤ b) (hb1 : b ≤ 1073741824) : 0 ≤ (2 * a + b) / (2 * b) ∧ (2 * a + b) / (2 * b) ≤ 4611686018427387904 := by
  constructor
  · exact Int.ediv_nonneg (by omega) (by omega)
  · have := Int.ediv_le_self (2 * b) (show 0 ≤ 2 * a + b by omega)
    have h2 : (2 * a + b) / (2 * b) ≤ 2 * a + b := Int.ediv_le_self _ (by omega)
    omega
theorem near_in {a b : Int} (h0 : -1152921504606846976 ≤ a) (h1 : a ≤ 1152921504606846976) (hb : 1 ≤ b) (hb1 : b ≤ 1073741824) : -4611686018427387904 ≤ near a b ∧ near a b ≤ 4611686018427387904 := by
  unfold near
  split
  · have := near_pos_in (a := -a) (b := b) (by omega) (by omega) hb hb1
    omega
  · have := near_pos_in (a := a) (b := b) (by omega) (by omega) hb hb1
    omega
theorem quo_half {m b : Int} (hb : 1 ≤ b) : (2 * m + b) / (2 * b) = m / b + (if b ≤ 2 * (m % b) then 1 else 0) := by
  have e1 := Int.mul_ediv_add_emod m b
  have r0 := Int.emod_nonneg m (show b ≠ 0 by omega)
  have r1 := Int.emod_lt_of_pos m (show 0 < b by omega)
  generalize m / b = q at *
  generalize m % b = r at *
  have e2 : 2 * m + b = (2 * r + b) + (2 * b) * q := by
    rw [← e1, Int.mul_add, ← Int.mul_assoc]; omega
  rw [e2, Int.add_mul_ediv_left _ _ (by omega)]
  split
  · have e3 : 2 * r + b = (2 * r - b) + (2 * b) * 1 := by omega
    rw [e3, Int.add_mul_ediv_left _ _ (by omega), Int.ediv_eq_zero_of_lt (by omega) (by omega)]; omega
  · rw [Int.ediv_eq_zero_of_lt (by omega) (by omega)]; omega
set_option maxHeartbeats 800000 in
theorem nearest_pos (a b : Int) (w : World) (h0 : 0 ≤ a) (h1 : a ≤ 1152921504606846976) (hb : 1 ≤ b) (hb1 : b ≤ 1073741824) :
    Calls Tryd.prog 47 #[.int .i64 a, .int .i64 b] w fun e w' => e = .returned (.int .i64 ((2 * a + b) / (2 * b))) ∧ w = w' := by
  have hn := near_pos_in h0 h1 hb hb1
  go_enter Tryd.func47, Tryd.ntmps47
  go_wp2_with fail
  go_ret
  exact ⟨rfl, rfl⟩
set_option maxHeartbeats 800000 in
theorem nearest_any (a b : Int) (w : World) (h0 : -1152921504606846976 ≤ a) (h1 : a ≤ 1152921504606846976) (hb : 1 ≤ b) (hb1 : b ≤ 1073741824) :
    Calls Tryd.prog 47 #[.int .i64 a, .int .i64 b] w fun e w' => e = .returned (.int .i64 (near a b)) ∧ w = w' := by
  unfold near
  by_cases h : a < 0
  · rw [if_pos h]
    have hn := near_pos_in (a := -a) (b := b) (by omega) (by omega) hb hb1
    go_enter Tryd.func47, Tryd.ntmps47
    go_wp2_with fail
    refine (nearest_pos (-a) b _ (by omega) (by omega) hb hb1).mono ?_
    rintro e w' ⟨rfl, rfl⟩
    go_wp2_with fail
    go_ret
    exact ⟨rfl, rfl⟩
  · rw [if_neg h]
    exact nearest_pos a b w (by omega) h1 hb hb1

set_option maxHeartbeats 1600000 in
theorem round_any (n d den : Int) (w : World) (ha0 : -9223372036854775808 ≤ n) (ha1 : n ≤ 9223372036854775807) (hb0 : -9223372036854775808 ≤ d) (hb1 : d ≤ 9223372036854775807) :
    Calls Tryd.prog 34 #[.agg #[.int .i64 n, .int .i64 d], .int .i64 den] w fun e w' => e = .returned (fr (roundF n d den)) ∧ Below w.heap.size w w' := by
  unfold roundF
  obtain ⟨V1, v1⟩ : ∃ V1, vld n d = V1 := ⟨_, rfl⟩
  rw [v1]
  cases V1
  case false =>
    rw [if_neg (by simp)]
    go_enter Tryd.func34, Tryd.ntmps34
    go_wp2_with fail
    refine (FracD.valid_any _ _ _ (by omega) (by omega) (by omega) (by omega)).mono ?_
    rintro e w1 ⟨rfl, k1⟩
    have A2 : Has w1 (w.heap.size + 1) #[.int .i64 0, .int .i64 0] := (Has.new1 w _ 23 _).below k1 (by simp)
    have B1 : Below w.heap.size w w1 := ((below_alloc w _).alloc (by simp) _).trans (k1.mono (by simp; omega))
    obtain ⟨c4, c5, f4, f5, z1⟩ := A2.two
    go_wp2_with fail
    have r0 := A2.put0 (.int .i64 0) (.int .i64 0)
    have r1 := A2.put1 (.int .i64 0) (.int .i64 0)
    refine bodyPost_ret (v := fr (0, 0, 13)) (by simp [results, Tryd.results34, go_sem, r0, r1]) rfl ?_
    exact ⟨rfl, by repeat (first | exact B1 | refine Below.setCell ?_ (by simp) _)⟩
  case true =>
    rw [if_pos rfl]
    obtain ⟨hA, hB, hB1⟩ := vld_in v1
    by_cases hden : den < 1 ∨ 1073741824 < den
    · rw [if_pos hden]
      have hden' : den < 1 ∨ (1 ≤ den ∧ 1073741824 < den) := by omega
      clear hden
      rcases hden' with h1 | ⟨h1, h2⟩
      all_goals
        go_enter Tryd.func34, Tryd.ntmps34
        go_wp2_with fail
        refine (FracD.valid_any _ _ _ (by omega) (by omega) (by omega) (by omega)).mono ?_
        rintro e w1 ⟨rfl, k1⟩
        have A2 : Has w1 (w.heap.size + 1) #[.int .i64 0, .int .i64 0] := (Has.new1 w _ 23 _).below k1 (by simp)
        have B1 : Below w.heap.size w w1 := ((below_alloc w _).alloc (by simp) _).trans (k1.mono (by simp; omega))
        obtain ⟨c4, c5, f4, f5, z1⟩ := A2.two
        go_wp2_with fail
        have r0 := A2.put0 (.int .i64 0) (.int .i64 0)
        have r1 := A2.put1 (.int .i64 0) (.int .i64 0)
        refine bodyPost_ret (v := fr (0, 0, 12)) (by simp [results, Tryd.results34, go_sem, r0, r1]) rfl ?_
        exact ⟨rfl, by repeat (first | exact B1 | refine Below.setCell ?_ (by simp) _)⟩
    · rw [if_neg hden]
      have hden1 : 1 ≤ den := by omega
      have hden2 : den ≤ 1073741824 := by omega
      clear hden
      have m1 := mul_in30 hA ⟨by omega, hden2⟩
      have hn := near_in m1.1 m1.2 hB1 (by omega : d ≤ 1073741824)
      have hmk := fun w2 => FracB.make_any (near (n * den) d) den w2 (by omega) (by omega) (by omega) (by omega)
      generalize mk (near (n * den) d) den = m at hmk ⊢
      have Hmk := Lib.hid hmk; clear hmk
      go_enter Tryd.func34, Tryd.ntmps34
      go_wp2_with fail
      refine (FracD.valid_any _ _ _ (by omega) (by omega) (by omega) (by omega)).mono ?_
      rintro e w1 ⟨rfl, k1⟩
      have A0 : Has w1 w.heap.size #[.int .i64 n, .int .i64 d] := ((Has.new w 23 _).alloc _).below k1 (by simp; omega)
      have A2 : Has w1 (w.heap.size + 1) #[.int .i64 0, .int .i64 0] := (Has.new1 w _ 23 _).below k1 (by simp)
      have B1 : Below w.heap.size w w1 := ((below_alloc w _).alloc (by simp) _).trans (k1.mono (by simp; omega))
      obtain ⟨c0, c1, _, _, _⟩ := A0.two
      obtain ⟨c4, c5, f4, f5, z1⟩ := A2.two
      go_wp2_with fail
      refine (nearest_any _ _ _ (by omega) (by omega) (by omega) (by omega)).mono ?_
      rintro e w2 ⟨rfl, rfl⟩
      go_wp2_with fail
      refine (Hmk.out w1).mono ?_
      rintro e w3 ⟨rfl, k3⟩
      have B3 : Below w.heap.size w w3 := B1.trans (k3.mono (by omega))
      have z3 := Nat.lt_of_lt_of_le z1 k3.size
      clear c0 c1 c4 c5 f4 f5
      obtain ⟨c4, c5, f4, f5, _⟩ := (A2.below k3 (by omega)).two
      go_wp2_with fail
      have r0 := (A2.below k3 (by omega)).put0 (.int .i64 m.1) (.int .i64 m.2.1)
      have r1 := (A2.below k3 (by omega)).put1 (.int .i64 m.1) (.int .i64 m.2.1)
      refine bodyPost_ret (v := fr m) (by simp [results, Tryd.results34, go_sem, r0, r1]) rfl ?_
      exact ⟨rfl, by repeat (first | exact B3 | refine Below.setCell ?_ (by simp) _)⟩
end FracR
end Go.Proofs.YtlamemhfnglfeaaDoor
