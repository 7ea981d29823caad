/- The contract of the reference's Round (layer 2), for all fractions and steps. No conditions. -/
import Derived.Test.YtandcmlmklpckabDoorFracR
namespace Go.Proofs.YtandcmlmklpckabDoor
open Go Go.RowKit
namespace FracS
open Kit FracM
open FracB (fr)
open FracR (near roundF near_in quo_half)

theorem near_abs {n den d : Int} (hden : 1 ≤ den) (hd : 1 ≤ d) : near (n * den) d = if n < 0 then -(((n.natAbs : Nat) : Int) * den / d + (if d ≤ 2 * ((((n.natAbs : Nat) : Int) * den) % d) then 1 else 0)) else ((n.natAbs : Nat) : Int) * den / d + (if d ≤ 2 * ((((n.natAbs : Nat) : Int) * den) % d) then 1 else 0) := by
  unfold near
  by_cases h : n < 0
  · have hneg : n * den < 0 := by
      have := Int.mul_le_mul_of_nonneg_right (show n ≤ -1 by omega) (show 0 ≤ den by omega)
      omega
    rw [if_pos h, if_pos hneg]
    have e : ((n.natAbs : Nat) : Int) * den = -(n * den) := by rw [show ((n.natAbs : Nat) : Int) = -n by omega]; grind
    rw [e, quo_half hd]
  · have hpos : ¬ n * den < 0 := by
      have := Int.mul_nonneg (show 0 ≤ n by omega) (show 0 ≤ den by omega)
      omega
    rw [if_neg h, if_neg hpos]
    rw [show ((n.natAbs : Nat) : Int) = n by omega, quo_half hd]

set_option maxHeartbeats 3200000 in
theorem round_ok (n d den : Int) (w : World) (v1 : vld n d = true) (hden1 : 1 ≤ den) (hden2 : den ≤ 1073741824) :
    Calls Tryd.prog 6 #[.agg #[.int .i64 n, .int .i64 d], .int .i64 den] w fun e w' => e = .returned (fr (mk (near (n * den) d) den)) ∧ Below w.heap.size w w' := by
  obtain ⟨hA, hB, hB1⟩ := vld_in v1
  have m1 := mul_in30 hA ⟨by omega, hden2⟩
  have m2 := mul_in30 (x := ((n.natAbs : Nat) : Int)) (y := den) (by omega) ⟨by omega, hden2⟩
  have m3 := Int.mul_nonneg (show 0 ≤ ((n.natAbs : Nat) : Int) by omega) (show 0 ≤ den by omega)
  have hn := near_in m1.1 m1.2 hB1 (by omega : d ≤ 1073741824)
  have hnear := near_abs (n := n) hden1 hB1
  generalize near (n * den) d = K at hn hnear ⊢
  have q0 := Int.ediv_nonneg m3 (show 0 ≤ d by omega)
  have q1 := Int.ediv_le_self d m3
  have r0 := Int.emod_nonneg (((n.natAbs : Nat) : Int) * den) (show d ≠ 0 by omega)
  have r1 := Int.emod_lt_of_pos (((n.natAbs : Nat) : Int) * den) (show 0 < d by omega)
  have hv := fun w2 => v1 ▸ FracE.valid_any n d w2 (by omega) (by omega) (by omega) (by omega)
  have hmk := fun w2 => FracC.make_any K den w2 (by omega) (by omega) (by omega) (by omega)
  generalize mk K den = m at hmk ⊢
  have Hmk := Lib.hid hmk
  have Hv := Lib.hid hv
  clear hmk hv
  have T1 : Hid ((((n.natAbs : Nat) : Int) * den).tmod d = (((n.natAbs : Nat) : Int) * den) % d) := Lib.hid (Int.tmod_eq_emod_of_nonneg m3)
  have T2 : Hid (IntKind.i64.wrap (2 * ((((n.natAbs : Nat) : Int) * den) % d)) = 2 * ((((n.natAbs : Nat) : Int) * den) % d)) := Lib.hid (IntWalk.i64_in _ ⟨by omega, by omega⟩)
  by_cases h1 : n < 0 <;> by_cases h2 : d ≤ 2 * ((((n.natAbs : Nat) : Int) * den) % d)
  all_goals
    simp only [h1, h2, if_true, if_false] at hnear
    try rw [Int.add_zero] at hnear
    have HK := Lib.hid hnear
    clear hnear
    go_enter Tryd.func6, Tryd.ntmps6
    go_wp2_with fail
    refine (Hv.out _).mono ?_
    rintro e w1 ⟨rfl, k1⟩
    have A0 : Has w1 w.heap.size #[.int .i64 n, .int .i64 d] := ((Has.new w 23 _).alloc _).below k1 (by simp; omega)
    have A2 : Has w1 (w.heap.size + 1) #[.int .i64 0, .int .i64 0] := (Has.new1 w _ 23 _).below k1 (by simp)
    have B1 : Below w.heap.size w w1 := ((below_alloc w _).alloc (by simp) _).trans (k1.mono (by simp; omega))
    obtain ⟨c0, c1, _, _, _⟩ := A0.two
    obtain ⟨c4, c5, f4, f5, z1⟩ := A2.two
    go_wp2_with fail
    refine (FracA.size_any _ _ (by omega) (by omega)).mono ?_
    rintro e w2 ⟨rfl, rfl⟩
    go_wp2_with fail
    have t1 := T1.out
    have t2 := T2.out
    go_quiet (fail)
    clear t1 t2
    go_wp2_with fail
    rw [← HK.out]
    refine (Hmk.out _).mono ?_
    rintro e w3 ⟨rfl, k3⟩
    have B3 : Below w.heap.size w w3 := (below_drewN B1 nq).trans (k3.mono (by have : (w1.drewN nq).heap.size = w1.heap.size := rfl; omega))
    have z3 := Nat.lt_of_lt_of_le z1 k3.size
    replace A2 := A2.drewN nq
    clear c0 c1 c4 c5 f4 f5
    obtain ⟨c4, c5, f4, f5, _⟩ := (A2.below k3 (by have : (w1.drewN nq).heap.size = w1.heap.size := rfl; omega)).two
    go_wp2_with fail
    have r0 := (A2.below k3 (by have : (w1.drewN nq).heap.size = w1.heap.size := rfl; omega)).put0 (.int .i64 m.1) (.int .i64 m.2.1)
    have r1 := (A2.below k3 (by have : (w1.drewN nq).heap.size = w1.heap.size := rfl; omega)).put1 (.int .i64 m.1) (.int .i64 m.2.1)
    refine bodyPost_ret (v := fr m) (by simp [results, Tryd.results6, go_sem, r0, r1]) rfl ?_
    exact ⟨rfl, by repeat (first | exact B3 | refine Below.setCell ?_ (by simp) _)⟩
end FracS
end Go.Proofs.YtandcmlmklpckabDoor
