/- The contract of the reference's Make (layer 2), for all integers. No conditions. -/
import Derived.Test.YtlamemhfnglfeaaDoorFracB
namespace Go.Proofs.YtlamemhfnglfeaaDoor
open Go Go.RowKit
namespace FracC
open FracA FracM FracB

theorem quiet_eq {P : Program} {f : FuncId} {args : Array Value} {w : World} {n : Nat} {v : Value}
    (h : Calls P f args (w.drewN n) fun e w' => e = .returned v ∧ w.drewN n = w') : Calls P f args (w.drewN n) fun e w'' => e = .returned v ∧ ∃ m, w'' = w.drewN m :=
  h.mono fun _ _ ⟨he, hm⟩ => ⟨he, n, hm.symm⟩

theorem quiet_eq2 {P : Program} {f : FuncId} {args : Array Value} {W w : World} {n : Nat} {v : Value} (hW : W = w.drewN n)
    (h : Calls P f args W fun e w' => e = .returned v ∧ W = w') : Calls P f args W fun e w'' => e = .returned v ∧ ∃ m, w'' = w.drewN m :=
  h.mono fun _ _ ⟨he, hm⟩ => ⟨he, n, hm.symm.trans hW⟩

set_option maxHeartbeats 800000 in
theorem make_zero (a : Int) (w : World) :
    Calls Tryd.prog 11 #[.int .i64 a, .int .i64 0] w fun e w' => e = .returned (fr (0, 0, 13)) ∧ Below w.heap.size w w' := by
  go_enter Tryd.func11, Tryd.ntmps11
  go_wp2
  go_returns
  exact ⟨rfl, by go_grown⟩

set_option maxHeartbeats 1600000 in
theorem make_big (a b : Int) (w : World) (ha0 : -9223372036854775808 ≤ a) (ha1 : a ≤ 9223372036854775807) (hb0 : -9223372036854775808 ≤ b) (hb1 : b ≤ 9223372036854775807) (hz : ¬ b = 0) (hb : big a b = true) :
    Calls Tryd.prog 11 #[.int .i64 a, .int .i64 b] w fun e w' => e = .returned (fr (0, 0, 12)) ∧ Below w.heap.size w w' := by
  have hz' : (b == 0) = false := by simpa using hz
  have hg1 : 1 ≤ Nat.gcd a.natAbs b.natAbs := gg_pos (a := a) hz
  have hg2 : Nat.gcd a.natAbs b.natAbs ≤ b.natAbs := gg_le (a := a) hz
  have q1 := Lib.hid (quoN a b ha0 ha1)
  have q2 := Lib.hid (quoD a b hb0 hb1)
  have hb' : (1073741824 : Int) < (mkN a b : Nat) ∨ ((mkN a b : Nat) : Int) ≤ 1073741824 ∧ (1073741824 : Int) < (mkD a b : Nat) := by unfold big at hb; simp at hb; omega
  clear hb
  rcases hb' with hN | ⟨hN, hD⟩
  all_goals
    go_enter Tryd.func11, Tryd.ntmps11
    go_wp2_with (first | (go_at_call 43; refine (size_any _ _ (by omega) (by omega)).mono ?_; rintro e w' ⟨rfl, rfl⟩) | (go_at_call 42; refine (gcd_any _ _ _ (by omega) (by omega)).mono ?_; rintro e w' ⟨rfl, n, rfl⟩))
    have e1 := q1.out
    have e2 := q2.out
    generalize hW : World.drewN _ n = W0
    have HW := Lib.hid hW; clear hW
    go_quiet ((go_at_call 43; exact quiet_eq (size_any _ _ (by omega) (by omega))))
    have hW := HW.out
    subst hW
    clear e1 e2
    go_wp2
    go_returns
    exact ⟨rfl, by repeat (first | exact Below.refl _ _ | refine Below.setCell ?_ (by simp) _ | refine below_drewN ?_ _ | refine Below.alloc ?_ (by simp) _)⟩

set_option maxHeartbeats 1600000 in
theorem make_ok (a b : Int) (w : World) (ha0 : -9223372036854775808 ≤ a) (ha1 : a ≤ 9223372036854775807) (hb0 : -9223372036854775808 ≤ b) (hb1 : b ≤ 9223372036854775807) (hz : ¬ b = 0) (hb : big a b = false) :
    Calls Tryd.prog 11 #[.int .i64 a, .int .i64 b] w fun e w' => e = .returned (fr (mkS a b, (mkD a b : Nat), 0)) ∧ Below w.heap.size w w' := by
  have hz' : (b == 0) = false := by simpa using hz
  have hg1 : 1 ≤ Nat.gcd a.natAbs b.natAbs := gg_pos (a := a) hz
  have hg2 : Nat.gcd a.natAbs b.natAbs ≤ b.natAbs := gg_le (a := a) hz
  have q1 := Lib.hid (quoN a b ha0 ha1)
  have q2 := Lib.hid (quoD a b hb0 hb1)
  have hb' := big_false hb
  have hN : ((mkN a b : Nat) : Int) ≤ 1073741824 := by omega
  have hD : ((mkD a b : Nat) : Int) ≤ 1073741824 := by omega
  clear hb hb'
  obtain ⟨d1, e1⟩ : ∃ d1, decide (a < 0) = d1 := ⟨_, rfl⟩
  obtain ⟨d2, e2⟩ : ∃ d2, decide (b < 0) = d2 := ⟨_, rfl⟩
  have hs : mkS a b = if (d1 != d2) = true then -(mkN a b : Int) else (mkN a b : Int) := by rw [← e1, ← e2]; rfl
  have Hs := Lib.hid hs; clear hs
  cases d1 <;> cases d2
  all_goals
    go_enter Tryd.func11, Tryd.ntmps11
    go_wp2_with (first | (go_at_call 43; refine (size_any _ _ (by omega) (by omega)).mono ?_; rintro e w' ⟨rfl, rfl⟩) | (go_at_call 42; refine (gcd_any _ _ _ (by omega) (by omega)).mono ?_; rintro e w' ⟨rfl, n, rfl⟩))
    have e3 := q1.out
    have e4 := q2.out
    generalize hW : World.drewN _ n = W0
    have HW := Lib.hid hW; clear hW
    go_quiet ((go_at_call 43; exact quiet_eq (size_any _ _ (by omega) (by omega))))
    have hW := HW.out
    subst hW
    clear e3 e4
    go_wp2
    go_returns
    refine ⟨by rw [Hs.out]; rfl, ?_⟩
    repeat (first | exact Below.refl _ _ | refine Below.setCell ?_ (by simp) _ | refine below_drewN ?_ _ | refine Below.alloc ?_ (by simp) _)

/-- The reference's Make, for all integers. -/
theorem make_any (a b : Int) (w : World) (ha0 : -9223372036854775808 ≤ a) (ha1 : a ≤ 9223372036854775807) (hb0 : -9223372036854775808 ≤ b) (hb1 : b ≤ 9223372036854775807) :
    Calls Tryd.prog 11 #[.int .i64 a, .int .i64 b] w fun e w' => e = .returned (fr (mk a b)) ∧ Below w.heap.size w w' := by
  by_cases hz : b = 0
  · subst hz
    rw [mk_zero rfl]
    exact make_zero a w
  · by_cases hb : big a b = true
    · rw [mk_big hz hb]
      exact make_big a b w ha0 ha1 hb0 hb1 hz hb
    · have hb : big a b = false := by simpa using hb
      rw [mk_ok hz hb]
      exact make_ok a b w ha0 ha1 hb0 hb1 hz hb
end FracC
end Go.Proofs.YtlamemhfnglfeaaDoor
