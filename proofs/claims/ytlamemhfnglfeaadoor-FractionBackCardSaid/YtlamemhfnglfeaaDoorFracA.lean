/- The contracts of magnitude, divisor, size and gcd (package fraction and the reference of layer 2): absolute values and greatest common divisors, for every argument. No conditions. -/
import Derived.Test.YtlamemhfnglfeaaDoorChecked
import Derived.WalkKit
import Derived.BigRegion
import Derived.Deep.QuietTactic
import Derived.BigQuiet
import Derived.Lib.Hide
import Derived.PlainAid
import Derived.Handy
namespace Go.Proofs.YtlamemhfnglfeaaDoor
open Go Go.RowKit

namespace FracA
theorem ret_int {k : IntKind} {a b : Int} (h : a = b) : Ending.returned (.int k a) = Ending.returned (.int k b) := by rw [h]

theorem magnitude_any (n : Int) (w : World) (h0 : -9223372036854775808 ≤ n) (h1 : n ≤ 9223372036854775807) :
    Calls Tryd.prog 40 #[.int .i64 n] w fun e w' => e = .returned (.int .u64 (n.natAbs : Nat)) ∧ w = w' := by
  by_cases h : n < 0
  · have e : IntKind.u64.wrap (-(IntKind.u64.wrap n)) = ((n.natAbs : Nat) : Int) := by rw [IntKind.wrap_u64, IntKind.wrap_u64]; omega
    have He := Lib.hid e; clear e
    go_enter Tryd.func40, Tryd.ntmps40
    go_wp2
    go_ret
    exact ⟨ret_int He.out, rfl⟩
  · go_enter Tryd.func40, Tryd.ntmps40
    go_wp2
    go_ret
    exact ⟨ret_int (by omega), rfl⟩

theorem size_any (n : Int) (w : World) (h0 : -9223372036854775808 ≤ n) (h1 : n ≤ 9223372036854775807) :
    Calls Tryd.prog 43 #[.int .i64 n] w fun e w' => e = .returned (.int .u64 (n.natAbs : Nat)) ∧ w = w' := by
  by_cases h : n < 0
  all_goals
    go_enter Tryd.func43, Tryd.ntmps43
    go_wp2
    go_ret
    exact ⟨ret_int (by omega), rfl⟩

theorem gcd_step (a b : Nat) : Nat.gcd b (a % b) = Nat.gcd a b := by rw [Nat.gcd_comm b, ← Nat.gcd_rec, Nat.gcd_comm]

set_option maxHeartbeats 800000 in
theorem divisor_any (a0 b0 : Nat) (w : World) (ha : a0 ≤ 18446744073709551615) (hb : b0 ≤ 18446744073709551615) :
    Calls Tryd.prog 41 #[.int .u64 a0, .int .u64 b0] w fun e w' => e = .returned (.int .u64 (Nat.gcd a0 b0 : Nat)) ∧ ∃ n, w' = w.drewN n := by
  go_enter Tryd.func41, Tryd.ntmps41
  go_wp2
  go_loopw [0, 1] (fun va vb wr => ∃ a b : Nat, va = .int .u64 a ∧ vb = .int .u64 b ∧ a ≤ 18446744073709551615 ∧ b ≤ 18446744073709551615 ∧ Hid (Nat.gcd a b = Nat.gcd a0 b0) ∧ Hid (∃ n, wr = w.drewN n)) (fun _ vb _ => (intOf vb).toNat)
  case atStart => exact ⟨a0, b0, rfl, rfl, ha, hb, rfl, ⟨0, rfl⟩⟩
  case round =>
    obtain ⟨a, b, rfl, rfl, hia, hib, hg, hal⟩ := hrel
    by_cases hb0 : b = 0
    · subst hb0
      go_wp2
      go_ret
      exact ⟨ret_int (by have := hg.out; rw [Nat.gcd_zero_right] at this; rw [this]), hal.out⟩
    · go_wp2
      go_region
      all_goals (try go_wp2)
      all_goals (
        go_roundw
        case rel => exact ⟨b, a % b, rfl, by rw [Int.natCast_emod], hib, by have := Nat.mod_lt a (Nat.pos_of_ne_zero hb0); omega, Lib.hid ((gcd_step a b).trans hg.out), Lib.hid (by obtain ⟨n, rfl⟩ := hal.out; exact ⟨n + 1, rfl⟩)⟩
        case measure => have := Nat.mod_lt a (Nat.pos_of_ne_zero hb0); simp only [intOf, ← Int.natCast_emod, Int.toNat_natCast]; exact this)

set_option maxHeartbeats 800000 in
theorem gcd_any (a0 b0 : Nat) (w : World) (ha : a0 ≤ 18446744073709551615) (hb : b0 ≤ 18446744073709551615) :
    Calls Tryd.prog 42 #[.int .u64 a0, .int .u64 b0] w fun e w' => e = .returned (.int .u64 (Nat.gcd a0 b0 : Nat)) ∧ ∃ n, w' = w.drewN n := by
  go_enter Tryd.func42, Tryd.ntmps42
  go_wp2
  go_loopw [0, 1] (fun va vb wr => ∃ a b : Nat, va = .int .u64 a ∧ vb = .int .u64 b ∧ a ≤ 18446744073709551615 ∧ b ≤ 18446744073709551615 ∧ Hid (Nat.gcd a b = Nat.gcd a0 b0) ∧ Hid (∃ n, wr = w.drewN n)) (fun _ vb _ => (intOf vb).toNat)
  case atStart => exact ⟨a0, b0, rfl, rfl, ha, hb, rfl, ⟨0, rfl⟩⟩
  case round =>
    obtain ⟨a, b, rfl, rfl, hia, hib, hg, hal⟩ := hrel
    by_cases hb0 : b = 0
    · subst hb0
      go_wp2
      go_ret
      exact ⟨ret_int (by have := hg.out; rw [Nat.gcd_zero_right] at this; rw [this]), hal.out⟩
    · go_wp2
      go_region
      all_goals (try go_wp2)
      all_goals (
        go_roundw
        case rel => exact ⟨b, a % b, rfl, by rw [Int.natCast_emod], hib, by have := Nat.mod_lt a (Nat.pos_of_ne_zero hb0); omega, Lib.hid ((gcd_step a b).trans hg.out), Lib.hid (by obtain ⟨n, rfl⟩ := hal.out; exact ⟨n + 1, rfl⟩)⟩
        case measure => have := Nat.mod_lt a (Nat.pos_of_ne_zero hb0); simp only [intOf, ← Int.natCast_emod, Int.toNat_natCast]; exact this)
end FracA
end Go.Proofs.YtlamemhfnglfeaaDoor
