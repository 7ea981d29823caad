/- The contracts of the functions on bytes, of the code and of the reference, and of the reserved words (layer 1). No conditions. -/
import Derived.Test.YtgfdplmilichiaaDoorKit
import Derived.Test.YtgfdplmilichiaaDoorLexM
namespace Go.Proofs.YtgfdplmilichiaaDoor
open Go Go.RowKit
namespace TermA
open Kit LexM
theorem lower_any (n : Int) (w : World) :
    Calls Tryd.prog 46 #[.int .u8 n] w fun e w' => e = .returned (.bool (loB n)) ∧ w = w' := by
  go_enter Tryd.func46, Tryd.ntmps46
  go_wp2
  all_goals
    go_ret
    exact ⟨ret_bool (by unfold loB; first | rfl | (rw [Bool.eq_iff_iff]; simp <;> omega) | (rw [Bool.eq_iff_iff]; simp [*])), rfl⟩
theorem upper_any (n : Int) (w : World) :
    Calls Tryd.prog 49 #[.int .u8 n] w fun e w' => e = .returned (.bool (upB n)) ∧ w = w' := by
  go_enter Tryd.func49, Tryd.ntmps49
  go_wp2
  all_goals
    go_ret
    exact ⟨ret_bool (by unfold upB; first | rfl | (rw [Bool.eq_iff_iff]; simp <;> omega) | (rw [Bool.eq_iff_iff]; simp [*])), rfl⟩
theorem digit_any (n : Int) (w : World) :
    Calls Tryd.prog 44 #[.int .u8 n] w fun e w' => e = .returned (.bool (dgB n)) ∧ w = w' := by
  go_enter Tryd.func44, Tryd.ntmps44
  go_wp2
  all_goals
    go_ret
    exact ⟨ret_bool (by unfold dgB; first | rfl | (rw [Bool.eq_iff_iff]; simp <;> omega) | (rw [Bool.eq_iff_iff]; simp [*])), rfl⟩
theorem rlower_any (n : Int) (w : World) :
    Calls Tryd.prog 48 #[.int .u8 n] w fun e w' => e = .returned (.bool (loB n)) ∧ w = w' := by
  go_enter Tryd.func48, Tryd.ntmps48
  go_wp2
  all_goals
    go_ret
    exact ⟨ret_bool (by unfold loB; first | rfl | (rw [Bool.eq_iff_iff]; simp <;> omega) | (rw [Bool.eq_iff_iff]; simp [*])), rfl⟩
theorem rupper_any (n : Int) (w : World) :
    Calls Tryd.prog 50 #[.int .u8 n] w fun e w' => e = .returned (.bool (upB n)) ∧ w = w' := by
  go_enter Tryd.func50, Tryd.ntmps50
  go_wp2
  all_goals
    go_ret
    exact ⟨ret_bool (by unfold upB; first | rfl | (rw [Bool.eq_iff_iff]; simp <;> omega) | (rw [Bool.eq_iff_iff]; simp [*])), rfl⟩
theorem rdigit_any (n : Int) (w : World) :
    Calls Tryd.prog 45 #[.int .u8 n] w fun e w' => e = .returned (.bool (dgB n)) ∧ w = w' := by
  go_enter Tryd.func45, Tryd.ntmps45
  go_wp2
  all_goals
    go_ret
    exact ⟨ret_bool (by unfold dgB; first | rfl | (rw [Bool.eq_iff_iff]; simp <;> omega) | (rw [Bool.eq_iff_iff]; simp [*])), rfl⟩
theorem res_any (s : ByteArray) (w : World) :
    Calls Tryd.prog 47 #[.string s] w fun e w' => e = .returned (.bool (resB s.data.toList)) ∧ w = w' := by
  have E := Lib.hid (ByteArray.toList_eq s)
  go_enter Tryd.func47, Tryd.ntmps47
  go_wp2
  all_goals
    go_ret
    exact ⟨ret_bool (by rw [← E.out]; simp [resB, *]), rfl⟩
end TermA
end Go.Proofs.YtgfdplmilichiaaDoor
