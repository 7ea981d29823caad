/- The contracts of Make, in the package and in the reference of layer 2: both answer the same lowest terms and errors, for all integers. No conditions. -/
import Derived.Test.YtlamemhfnglfeaaDoorFracA
import Derived.Test.YtlamemhfnglfeaaDoorFracM
import Derived.Deep.DeepFit
namespace Go.Proofs.YtlamemhfnglfeaaDoor
open Go Go.RowKit
namespace FracB
open FracA FracM

abbrev fr (p : Int × Int × Int) : Value := .tuple #[.agg #[.int .i64 p.1, .int .i64 p.2.1], .int .i64 p.2.2]

theorem below_alloc (w : World) (o : Obj) : Below w.heap.size w (w.alloc o) := (Below.refl _ _).alloc (Nat.le_refl _) o

set_option maxHeartbeats 800000 in
theorem make_zero (a : Int) (w : World) :
    Calls Tryd.prog 10 #[.int .i64 a, .int .i64 0] w fun e w' => e = .returned (fr (0, 0, 13)) ∧ Below w.heap.size w w' := by
  go_enter Tryd.func10, Tryd.ntmps10
  go_wp2
  go_returns
  exact ⟨rfl, by go_grown⟩

theorem below_drewN {B : Nat} {a w : World} (h : Below B a w) : ∀ n, Below B a (w.drewN n)
  | 0 => h
  | n + 1 => (below_drewN h n).drew

theorem quoN (a b : Int) (ha0 : -9223372036854775808 ≤ a) (ha1 : a ≤ 9223372036854775807) : IntKind.u64.wrap ((a.natAbs : Int) / ((Nat.gcd a.natAbs b.natAbs : Nat) : Int)) = ((mkN a b : Nat) : Int) := by
  have h := mkN_le a b
  rw [← Int.natCast_ediv]
  show IntKind.u64.wrap ((mkN a b : Nat) : Int) = _
  exact IntWalk.u64_in _ ⟨by omega, by omega⟩
theorem quoD (a b : Int) (hb0 : -9223372036854775808 ≤ b) (hb1 : b ≤ 9223372036854775807) : IntKind.u64.wrap ((b.natAbs : Int) / ((Nat.gcd a.natAbs b.natAbs : Nat) : Int)) = ((mkD a b : Nat) : Int) := by
  have h := mkD_le a b
  rw [← Int.natCast_ediv]
  show IntKind.u64.wrap ((mkD a b : Nat) : Int) = _
  exact IntWalk.u64_in _ ⟨by omega, by omega⟩

set_option maxHeartbeats 1600000 in
theorem make_big (a b : Int) (w : World) (ha0 : -9223372036854775808 ≤ a) (ha1 : a ≤ 9223372036854775807) (hb0 : -9223372036854775808 ≤ b) (hb1 : b ≤ 9223372036854775807) (hz : ¬ b = 0) (hb : big a b = true) :
    Calls Tryd.prog 10 #[.int .i64 a, .int .i64 b] w fun e w' => e = .returned (fr (0, 0, 12)) ∧ Below w.heap.size w w' := by
  have hz' : (b == 0) = false := by simpa using hz
  have hg1 : 1 ≤ Nat.gcd a.natAbs b.natAbs := gg_pos (a := a) hz
  have hg2 : Nat.gcd a.natAbs b.natAbs ≤ b.natAbs := gg_le (a := a) hz
  have q1 := Lib.hid (quoN a b ha0 ha1)
  have q2 := Lib.hid (quoD a b hb0 hb1)
  have hb' : (1073741824 : Int) < (mkN a b : Nat) ∨ ((mkN a b : Nat) : Int) ≤ 1073741824 ∧ (1073741824 : Int) < (mkD a b : Nat) := by unfold big at hb; simp at hb; omega
  clear hb
  rcases hb' with hN | ⟨hN, hD⟩
  all_goals
    go_enter Tryd.func10, Tryd.ntmps10
    go_wp2_with (first | (go_at_call 40; refine (magnitude_any _ _ (by omega) (by omega)).mono ?_; rintro e w' ⟨rfl, rfl⟩) | (go_at_call 41; refine (divisor_any _ _ _ (by omega) (by omega)).mono ?_; rintro e w' ⟨rfl, n, rfl⟩))
    have e1 := q1.out
    have e2 := q2.out
    go_quiet (fail)
    clear e1 e2
    go_wp2
    go_returns
    exact ⟨rfl, by repeat (first | exact Below.refl _ _ | refine Below.setCell ?_ (by simp) _ | refine below_drewN ?_ _ | exact below_alloc _ _)⟩

set_option maxHeartbeats 1600000 in
theorem make_ok (a b : Int) (w : World) (ha0 : -9223372036854775808 ≤ a) (ha1 : a ≤ 9223372036854775807) (hb0 : -9223372036854775808 ≤ b) (hb1 : b ≤ 9223372036854775807) (hz : ¬ b = 0) (hb : big a b = false) :
    Calls Tryd.prog 10 #[.int .i64 a, .int .i64 b] w fun e w' => e = .returned (fr (mkS a b, (mkD a b : Nat), 0)) ∧ Below w.heap.size w w' := by
  have hz' : (b == 0) = false := by simpa using hz
  have hg1 : 1 ≤ Nat.gcd a.natAbs b.natAbs := gg_pos (a := a) hz
  have hg2 : Nat.gcd a.natAbs b.natAbs ≤ b.natAbs := gg_le (a := a) hz
  have q1 := Lib.hid (quoN a b ha0 ha1)
  have q2 := Lib.hid (quoD a b hb0 hb1)
  have hb' := big_false hb
  have hN : ((mkN a b : Nat) : Int) ≤ 1073741824 := by omega
  have hD : ((mkD a b : Nat) : Int) ≤ 1073741824 := by omega
  clear hb hb'
  obtain ⟨d1, e1⟩ : ∃ d1, decide (a < 0) = d1 := ⟨_, rfl⟩
  obtain ⟨d2, e2⟩ : ∃ d2, decide (b < 0) = d2 := ⟨_, rfl⟩
  have hs : mkS a b = if (d1 != d2) = true then -(mkN a b : Int) else (mkN a b : Int) := by rw [← e1, ← e2]; rfl
  have Hs := Lib.hid hs; clear hs
  cases d1 <;> cases d2
  all_goals
    go_enter Tryd.func10, Tryd.ntmps10
    go_wp2_with (first | (go_at_call 40; refine (magnitude_any _ _ (by omega) (by omega)).mono ?_; rintro e w' ⟨rfl, rfl⟩) | (go_at_call 41; refine (divisor_any _ _ _ (by omega) (by omega)).mono ?_; rintro e w' ⟨rfl, n, rfl⟩))
    have e3 := q1.out
    have e4 := q2.out
    go_quiet (fail)
    clear e3 e4
    go_wp2
    go_returns
    refine ⟨by rw [Hs.out]; rfl, ?_⟩
    repeat (first | exact Below.refl _ _ | refine Below.setCell ?_ (by simp) _ | refine below_drewN ?_ _ | refine Below.alloc ?_ (by simp) _)

/-- Make, for all integers. -/
theorem make_any (a b : Int) (w : World) (ha0 : -9223372036854775808 ≤ a) (ha1 : a ≤ 9223372036854775807) (hb0 : -9223372036854775808 ≤ b) (hb1 : b ≤ 9223372036854775807) :
    Calls Tryd.prog 10 #[.int .i64 a, .int .i64 b] w fun e w' => e = .returned (fr (mk a b)) ∧ Below w.heap.size w w' := by
  by_cases hz : b = 0
  · subst hz
    rw [mk_zero rfl]
    exact make_zero a w
  · by_cases hb : big a b = true
    · rw [mk_big hz hb]
      exact make_big a b w ha0 ha1 hb0 hb1 hz hb
    · have hb : big a b = false := by simpa using hb
      rw [mk_ok hz hb]
      exact make_ok a b w ha0 ha1 hb0 hb1 hz hb
end FracB
end Go.Proofs.YtlamemhfnglfeaaDoor
