/- The contract of the reference's Valid (layer 2), for all integers. No conditions. -/
import Derived.Test.YtlamemhfnglfeaaDoorFracB
namespace Go.Proofs.YtlamemhfnglfeaaDoor
open Go Go.RowKit
namespace FracE
open FracA FracM FracB

theorem quiet_eq {P : Program} {f : FuncId} {args : Array Value} {w : World} {n : Nat} {v : Value}
    (h : Calls P f args (w.drewN n) fun e w' => e = .returned v ∧ w.drewN n = w') : Calls P f args (w.drewN n) fun e w'' => e = .returned v ∧ ∃ m, w'' = w.drewN m :=
  h.mono fun _ _ ⟨he, hm⟩ => ⟨he, n, hm.symm⟩

set_option maxHeartbeats 1600000 in
theorem valid_any (n d : Int) (w : World) (ha0 : -9223372036854775808 ≤ n) (ha1 : n ≤ 9223372036854775807) (hb0 : -9223372036854775808 ≤ d) (hb1 : d ≤ 9223372036854775807) :
    Calls Tryd.prog 13 #[.agg #[.int .i64 n, .int .i64 d]] w fun e w' => e = .returned (.bool (vld n d)) ∧ Below w.heap.size w w' := by
  obtain ⟨b1, hb1'⟩ : ∃ b, decide (1 ≤ d) = b := ⟨_, rfl⟩
  obtain ⟨b2, hb2'⟩ : ∃ b, decide (d ≤ 1073741824) = b := ⟨_, rfl⟩
  obtain ⟨b3, hb3'⟩ : ∃ b, decide (-1073741824 ≤ n) = b := ⟨_, rfl⟩
  obtain ⟨b4, hb4'⟩ : ∃ b, decide (n ≤ 1073741824) = b := ⟨_, rfl⟩
  have hv : vld n d = (b1 && b2 && b3 && b4 && decide (gg n d = 1)) := by rw [← hb1', ← hb2', ← hb3', ← hb4']; rfl
  rw [hv]
  clear hv
  have hgg : decide (gg n d = 1) = (((Nat.gcd n.natAbs d.natAbs : Nat) : Int) == 1) := by
    unfold gg
    generalize Nat.gcd n.natAbs d.natAbs = g
    by_cases h : g = 1
    · rw [h]; rfl
    · rw [decide_eq_false h, eq_comm, beq_eq_false_iff_ne]; omega
  rw [hgg]
  clear hgg
  have hn : n.natAbs ≤ 9223372036854775808 := by omega
  have hd : d.natAbs ≤ 9223372036854775808 := by omega
  obtain ⟨b5, hb5'⟩ : ∃ b, (((Nat.gcd n.natAbs d.natAbs : Nat) : Int) == 1) = b := ⟨_, rfl⟩
  rw [hb5']
  cases b1
  case false =>
    go_enter Tryd.func13, Tryd.ntmps13
    go_wp2_with fail
    go_quiet (fail)
    go_wp2_with fail
    go_ret
    exact ⟨by simp, below_drewN (below_alloc _ _) _⟩
  case true =>
  cases b2
  case false =>
    go_enter Tryd.func13, Tryd.ntmps13
    go_wp2_with fail
    go_quiet (fail)
    go_wp2_with fail
    go_ret
    exact ⟨by simp, below_drewN (below_alloc _ _) _⟩
  case true =>
  cases b3
  case false =>
    go_enter Tryd.func13, Tryd.ntmps13
    go_wp2_with fail
    go_quiet (fail)
    go_wp2_with fail
    go_ret
    exact ⟨by simp, below_drewN (below_alloc _ _) _⟩
  case true =>
  cases b4
  case false =>
    go_enter Tryd.func13, Tryd.ntmps13
    go_wp2_with fail
    go_quiet (fail)
    go_wp2_with fail
    go_ret
    exact ⟨by simp, below_drewN (below_alloc _ _) _⟩
  case true =>
    go_enter Tryd.func13, Tryd.ntmps13
    go_wp2_with fail
    go_quiet ((first | (go_at_call 43; exact quiet_eq (size_any _ _ (by omega) (by omega))) | (go_at_call 42; exact Calls.quiet_of (gcd_any _ _ _ (by omega) (by omega)))))
    go_wp2_with fail
    go_ret
    exact ⟨by simp, below_drewN (below_alloc _ _) _⟩
end FracE
end Go.Proofs.YtlamemhfnglfeaaDoor
