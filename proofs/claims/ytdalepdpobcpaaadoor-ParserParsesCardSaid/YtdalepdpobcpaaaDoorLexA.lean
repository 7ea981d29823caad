/- The contracts of the functions on bytes, of the code and of the reference, and of the reserved words. No conditions. -/
import Derived.Test.YtdalepdpobcpaaaDoorKit
import Derived.Test.YtdalepdpobcpaaaDoorLexM
namespace Go.Proofs.YtdalepdpobcpaaaDoor
open Go Go.RowKit
namespace LexA
open Kit LexM
theorem lower_any (n : Int) (w : World) :
    Calls Tryd.prog 92 #[.int .u8 n] w fun e w' => e = .returned (.bool (loB n)) ∧ w = w' := by
  go_enter Tryd.func92, Tryd.ntmps92
  go_wp2
  all_goals
    go_ret
    exact ⟨ret_bool (by unfold loB; first | rfl | (rw [Bool.eq_iff_iff]; simp <;> omega) | (rw [Bool.eq_iff_iff]; simp [*])), rfl⟩
theorem upper_any (n : Int) (w : World) :
    Calls Tryd.prog 95 #[.int .u8 n] w fun e w' => e = .returned (.bool (upB n)) ∧ w = w' := by
  go_enter Tryd.func95, Tryd.ntmps95
  go_wp2
  all_goals
    go_ret
    exact ⟨ret_bool (by unfold upB; first | rfl | (rw [Bool.eq_iff_iff]; simp <;> omega) | (rw [Bool.eq_iff_iff]; simp [*])), rfl⟩
theorem digit_any (n : Int) (w : World) :
    Calls Tryd.prog 94 #[.int .u8 n] w fun e w' => e = .returned (.bool (dgB n)) ∧ w = w' := by
  go_enter Tryd.func94, Tryd.ntmps94
  go_wp2
  all_goals
    go_ret
    exact ⟨ret_bool (by unfold dgB; first | rfl | (rw [Bool.eq_iff_iff]; simp <;> omega) | (rw [Bool.eq_iff_iff]; simp [*])), rfl⟩
theorem blank_any (n : Int) (w : World) :
    Calls Tryd.prog 77 #[.int .u8 n] w fun e w' => e = .returned (.bool (blB n)) ∧ w = w' := by
  go_enter Tryd.func77, Tryd.ntmps77
  go_wp2
  all_goals
    go_ret
    exact ⟨ret_bool (by unfold blB; first | rfl | (rw [Bool.eq_iff_iff]; simp <;> omega) | (rw [Bool.eq_iff_iff]; simp [*])), rfl⟩
theorem symbol_any (n : Int) (w : World) :
    Calls Tryd.prog 80 #[.int .u8 n] w fun e w' => e = .returned (.bool (syB n)) ∧ w = w' := by
  go_enter Tryd.func80, Tryd.ntmps80
  go_wp2
  all_goals
    go_ret
    exact ⟨ret_bool (by unfold syB; first | rfl | (rw [Bool.eq_iff_iff]; simp <;> omega) | (rw [Bool.eq_iff_iff]; simp [*])), rfl⟩
theorem run_any (n : Int) (w : World) :
    Calls Tryd.prog 81 #[.int .u8 n] w fun e w' => e = .returned (.bool (ruB n)) ∧ w = w' := by
  go_enter Tryd.func81, Tryd.ntmps81
  go_wp2
  all_goals
    go_ret
    exact ⟨ret_bool (by unfold ruB loB upB dgB; first | rfl | (rw [Bool.eq_iff_iff]; simp <;> omega) | (rw [Bool.eq_iff_iff]; simp [*])), rfl⟩
theorem line_any (n : Int) (w : World) :
    Calls Tryd.prog 79 #[.int .u8 n] w fun e w' => e = .returned (.bool (ncB n)) ∧ w = w' := by
  go_enter Tryd.func79, Tryd.ntmps79
  go_wp2
  all_goals
    go_ret
    exact ⟨ret_bool (by unfold ncB; first | rfl | (rw [Bool.eq_iff_iff]; simp <;> omega) | (rw [Bool.eq_iff_iff]; simp [*])), rfl⟩
theorem rlower_any (n : Int) (w : World) :
    Calls Tryd.prog 66 #[.int .u8 n] w fun e w' => e = .returned (.bool (loB n)) ∧ w = w' := by
  go_enter Tryd.func66, Tryd.ntmps66
  go_wp2
  all_goals
    go_ret
    exact ⟨ret_bool (by unfold loB; first | rfl | (rw [Bool.eq_iff_iff]; simp <;> omega) | (rw [Bool.eq_iff_iff]; simp [*])), rfl⟩
theorem rupper_any (n : Int) (w : World) :
    Calls Tryd.prog 91 #[.int .u8 n] w fun e w' => e = .returned (.bool (upB n)) ∧ w = w' := by
  go_enter Tryd.func91, Tryd.ntmps91
  go_wp2
  all_goals
    go_ret
    exact ⟨ret_bool (by unfold upB; first | rfl | (rw [Bool.eq_iff_iff]; simp <;> omega) | (rw [Bool.eq_iff_iff]; simp [*])), rfl⟩
theorem rdigit_any (n : Int) (w : World) :
    Calls Tryd.prog 67 #[.int .u8 n] w fun e w' => e = .returned (.bool (dgB n)) ∧ w = w' := by
  go_enter Tryd.func67, Tryd.ntmps67
  go_wp2
  all_goals
    go_ret
    exact ⟨ret_bool (by unfold dgB; first | rfl | (rw [Bool.eq_iff_iff]; simp <;> omega) | (rw [Bool.eq_iff_iff]; simp [*])), rfl⟩
theorem rblank_any (n : Int) (w : World) :
    Calls Tryd.prog 69 #[.int .u8 n] w fun e w' => e = .returned (.bool (blB n)) ∧ w = w' := by
  go_enter Tryd.func69, Tryd.ntmps69
  go_wp2
  all_goals
    go_ret
    exact ⟨ret_bool (by unfold blB; first | rfl | (rw [Bool.eq_iff_iff]; simp <;> omega) | (rw [Bool.eq_iff_iff]; simp [*])), rfl⟩
theorem rsymbol_any (n : Int) (w : World) :
    Calls Tryd.prog 70 #[.int .u8 n] w fun e w' => e = .returned (.bool (syB n)) ∧ w = w' := by
  go_enter Tryd.func70, Tryd.ntmps70
  go_wp2
  all_goals
    go_ret
    exact ⟨ret_bool (by unfold syB; first | rfl | (rw [Bool.eq_iff_iff]; simp <;> omega) | (rw [Bool.eq_iff_iff]; simp [*])), rfl⟩
theorem rrun_any (n : Int) (w : World) :
    Calls Tryd.prog 71 #[.int .u8 n] w fun e w' => e = .returned (.bool (ruB n)) ∧ w = w' := by
  go_enter Tryd.func71, Tryd.ntmps71
  go_wp2
  all_goals
    go_ret
    exact ⟨ret_bool (by unfold ruB loB upB dgB; first | rfl | (rw [Bool.eq_iff_iff]; simp <;> omega) | (rw [Bool.eq_iff_iff]; simp [*])), rfl⟩
theorem res_any (s : ByteArray) (w : World) :
    Calls Tryd.prog 93 #[.string s] w fun e w' => e = .returned (.bool (resB s.data.toList)) ∧ w = w' := by
  have E := Lib.hid (ByteArray.toList_eq s)
  go_enter Tryd.func93, Tryd.ntmps93
  go_wp2
  all_goals
    go_ret
    exact ⟨ret_bool (by rw [← E.out]; simp [resB, *]), rfl⟩
theorem rword_any (s : ByteArray) (w : World) :
    Calls Tryd.prog 84 #[.string s] w fun e w' => e = .returned (.bool (resB s.data.toList)) ∧ w = w' := by
  have E := Lib.hid (ByteArray.toList_eq s)
  go_enter Tryd.func84, Tryd.ntmps84
  go_wp2
  all_goals
    go_ret
    exact ⟨ret_bool (by rw [← E.out]; simp [resB, *]), rfl⟩
end LexA
end Go.Proofs.YtdalepdpobcpaaaDoor
