/- The contracts of Variable and Number, of the code and of the reference. Condition: the string's length. -/
import Derived.Test.YtihbnonbhelbmaaGreatDoorTermA
namespace Go.Proofs.YtihbnonbhelbmaaGreatDoor
open Go Go.RowKit
namespace TermC
open Kit LexM TermA
set_option maxHeartbeats 1600000 in
theorem var_any (s : ByteArray) (w : World) (hs : s.size ≤ 9223372036854775807) :
    Calls Tryz.prog 39 #[.string s] w fun e w' => e = .returned (.bool (varL s.data.toList)) ∧ w = w' := by
  by_cases h0 : s.size < 1
  · have H : Hid (varL s.data.toList = false) := by
      have : s.data.toList = [] := by apply List.eq_nil_of_length_eq_zero; rw [len_eq]; omega
      rw [this]; exact rfl
    go_enter Tryz.func39, Tryz.ntmps39
    go_wp2_with (first | (go_at_call 72; refine (lower_any _ _).mono ?_; rintro e w' ⟨rfl, rfl⟩) | (go_at_call 71; refine (upper_any _ _).mono ?_; rintro e w' ⟨rfl, rfl⟩) | (go_at_call 73; refine (digit_any _ _).mono ?_; rintro e w' ⟨rfl, rfl⟩))
    go_ret
    exact ⟨ret_bool H.out.symm, rfl⟩
  by_cases h1 : 16 < s.size
  · have H : Hid (varL s.data.toList = false) := by
      unfold varL; rw [decide_eq_false (by rw [len_eq]; omega)]; exact rfl
    go_enter Tryz.func39, Tryz.ntmps39
    go_wp2_with (first | (go_at_call 72; refine (lower_any _ _).mono ?_; rintro e w' ⟨rfl, rfl⟩) | (go_at_call 71; refine (upper_any _ _).mono ?_; rintro e w' ⟨rfl, rfl⟩) | (go_at_call 73; refine (digit_any _ _).mono ?_; rintro e w' ⟨rfl, rfl⟩))
    go_ret
    exact ⟨ret_bool H.out.symm, rfl⟩
  have hp : 0 < s.size := by omega
  have hh := headB_eq upB s hp
  have hlen : decide (s.data.toList.length ≤ 16) = true := decide_eq_true (by rw [len_eq]; omega)
  cases h2 : upB s[0].toNat
  · have H : Hid (varL s.data.toList = false) := by
      unfold varL; rw [hh, h2, Bool.and_false]; exact rfl
    clear hh hlen
    go_enter Tryz.func39, Tryz.ntmps39
    go_wp2_with (first | (go_at_call 72; refine (lower_any _ _).mono ?_; rintro e w' ⟨rfl, rfl⟩) | (go_at_call 71; refine (upper_any _ _).mono ?_; rintro e w' ⟨rfl, rfl⟩) | (go_at_call 73; refine (digit_any _ _).mono ?_; rintro e w' ⟨rfl, rfl⟩))
    go_ret
    exact ⟨ret_bool H.out.symm, rfl⟩
  have H : Hid (varL s.data.toList = allB vrB s.data.toList) := by
    unfold varL; rw [hh, h2, hlen]; exact rfl
  clear hh hlen
  go_enter Tryz.func39, Tryz.ntmps39
  go_wp2_with (first | (go_at_call 72; refine (lower_any _ _).mono ?_; rintro e w' ⟨rfl, rfl⟩) | (go_at_call 71; refine (upper_any _ _).mono ?_; rintro e w' ⟨rfl, rfl⟩) | (go_at_call 73; refine (digit_any _ _).mono ?_; rintro e w' ⟨rfl, rfl⟩))
  go_loop [20] (fun i => ∃ k : Nat, k ≤ s.size ∧ i = .int .i64 k ∧ Hid (allB vrB (s.data.toList.take k) = true)) (fun i => s.size - (intOf i).toNat)
  case atStart => exact ⟨0, Nat.zero_le _, rfl, Lib.hid rfl⟩
  case round =>
    obtain ⟨k, hk, rfl, hA⟩ := hrel
    by_cases hlt : k < s.size
    · have hsn : Hid (allB vrB (s.data.toList.take (k + 1)) = vrB s[k].toNat) := by
        rw [take_snoc s k hlt, allB_snoc, hA.out]; exact rfl
      have hno := Lib.hid (allB_no vrB s k hlt)
      have hnm : Hid (vrB s[k].toNat = (loB s[k].toNat || upB s[k].toNat || dgB s[k].toNat)) := rfl
      clear h2
      cases c1 : loB s[k].toNat
      · cases c2 : upB s[k].toNat
        · cases c3 : dgB s[k].toNat
          · have N : Hid (vrB s[k].toNat = false) := by rw [hnm.out, c1, c2, c3]; exact rfl
            go_wp2_with (first | (go_at_call 72; refine (lower_any _ _).mono ?_; rintro e w' ⟨rfl, rfl⟩) | (go_at_call 71; refine (upper_any _ _).mono ?_; rintro e w' ⟨rfl, rfl⟩) | (go_at_call 73; refine (digit_any _ _).mono ?_; rintro e w' ⟨rfl, rfl⟩))
            go_ret
            exact ⟨ret_bool (by rw [H.out, hno.out N.out]), rfl⟩
          · have N : Hid (vrB s[k].toNat = true) := by rw [hnm.out, c1, c2, c3]; exact rfl
            go_wp2_with (first | (go_at_call 72; refine (lower_any _ _).mono ?_; rintro e w' ⟨rfl, rfl⟩) | (go_at_call 71; refine (upper_any _ _).mono ?_; rintro e w' ⟨rfl, rfl⟩) | (go_at_call 73; refine (digit_any _ _).mono ?_; rintro e w' ⟨rfl, rfl⟩))
            go_round
            case rel => exact ⟨k + 1, by omega, by go_num, by rw [hsn.out]; exact N⟩
            case measure => simp [intOf]; omega
        · have N : Hid (vrB s[k].toNat = true) := by rw [hnm.out, c1, c2]; exact rfl
          go_wp2_with (first | (go_at_call 72; refine (lower_any _ _).mono ?_; rintro e w' ⟨rfl, rfl⟩) | (go_at_call 71; refine (upper_any _ _).mono ?_; rintro e w' ⟨rfl, rfl⟩) | (go_at_call 73; refine (digit_any _ _).mono ?_; rintro e w' ⟨rfl, rfl⟩))
          go_round
          case rel => exact ⟨k + 1, by omega, by go_num, by rw [hsn.out]; exact N⟩
          case measure => simp [intOf]; omega
      · have N : Hid (vrB s[k].toNat = true) := by rw [hnm.out, c1]; exact rfl
        go_wp2_with (first | (go_at_call 72; refine (lower_any _ _).mono ?_; rintro e w' ⟨rfl, rfl⟩) | (go_at_call 71; refine (upper_any _ _).mono ?_; rintro e w' ⟨rfl, rfl⟩) | (go_at_call 73; refine (digit_any _ _).mono ?_; rintro e w' ⟨rfl, rfl⟩))
        go_round
        case rel => exact ⟨k + 1, by omega, by go_num, by rw [hsn.out]; exact N⟩
        case measure => simp [intOf]; omega
    · have hx := allB_all vrB s k (by omega)
      rw [hA.out] at hx
      have HX := Lib.hid hx.symm
      clear hx
      go_wp2_with (first | (go_at_call 72; refine (lower_any _ _).mono ?_; rintro e w' ⟨rfl, rfl⟩) | (go_at_call 71; refine (upper_any _ _).mono ?_; rintro e w' ⟨rfl, rfl⟩) | (go_at_call 73; refine (digit_any _ _).mono ?_; rintro e w' ⟨rfl, rfl⟩))
      go_ret
      exact ⟨ret_bool (by rw [H.out, HX.out]), rfl⟩
set_option maxHeartbeats 1600000 in
theorem rvar_any (s : ByteArray) (w : World) (hs : s.size ≤ 9223372036854775807) :
    Calls Tryz.prog 38 #[.string s] w fun e w' => e = .returned (.bool (varL s.data.toList)) ∧ w = w' := by
  by_cases h0 : s.size < 1
  · have H : Hid (varL s.data.toList = false) := by
      have : s.data.toList = [] := by apply List.eq_nil_of_length_eq_zero; rw [len_eq]; omega
      rw [this]; exact rfl
    go_enter Tryz.func38, Tryz.ntmps38
    go_wp2_with (first | (go_at_call 69; refine (rlower_any _ _).mono ?_; rintro e w' ⟨rfl, rfl⟩) | (go_at_call 68; refine (rupper_any _ _).mono ?_; rintro e w' ⟨rfl, rfl⟩) | (go_at_call 70; refine (rdigit_any _ _).mono ?_; rintro e w' ⟨rfl, rfl⟩))
    go_ret
    exact ⟨ret_bool H.out.symm, rfl⟩
  by_cases h1 : 16 < s.size
  · have H : Hid (varL s.data.toList = false) := by
      unfold varL; rw [decide_eq_false (by rw [len_eq]; omega)]; exact rfl
    go_enter Tryz.func38, Tryz.ntmps38
    go_wp2_with (first | (go_at_call 69; refine (rlower_any _ _).mono ?_; rintro e w' ⟨rfl, rfl⟩) | (go_at_call 68; refine (rupper_any _ _).mono ?_; rintro e w' ⟨rfl, rfl⟩) | (go_at_call 70; refine (rdigit_any _ _).mono ?_; rintro e w' ⟨rfl, rfl⟩))
    go_ret
    exact ⟨ret_bool H.out.symm, rfl⟩
  have hp : 0 < s.size := by omega
  have hh := headB_eq upB s hp
  have hlen : decide (s.data.toList.length ≤ 16) = true := decide_eq_true (by rw [len_eq]; omega)
  cases h2 : upB s[0].toNat
  · have H : Hid (varL s.data.toList = false) := by
      unfold varL; rw [hh, h2, Bool.and_false]; exact rfl
    clear hh hlen
    go_enter Tryz.func38, Tryz.ntmps38
    go_wp2_with (first | (go_at_call 69; refine (rlower_any _ _).mono ?_; rintro e w' ⟨rfl, rfl⟩) | (go_at_call 68; refine (rupper_any _ _).mono ?_; rintro e w' ⟨rfl, rfl⟩) | (go_at_call 70; refine (rdigit_any _ _).mono ?_; rintro e w' ⟨rfl, rfl⟩))
    go_ret
    exact ⟨ret_bool H.out.symm, rfl⟩
  have H : Hid (varL s.data.toList = allB vrB s.data.toList) := by
    unfold varL; rw [hh, h2, hlen]; exact rfl
  clear hh hlen
  go_enter Tryz.func38, Tryz.ntmps38
  go_wp2_with (first | (go_at_call 69; refine (rlower_any _ _).mono ?_; rintro e w' ⟨rfl, rfl⟩) | (go_at_call 68; refine (rupper_any _ _).mono ?_; rintro e w' ⟨rfl, rfl⟩) | (go_at_call 70; refine (rdigit_any _ _).mono ?_; rintro e w' ⟨rfl, rfl⟩))
  go_loop [20] (fun i => ∃ k : Nat, k ≤ s.size ∧ i = .int .i64 k ∧ Hid (allB vrB (s.data.toList.take k) = true)) (fun i => s.size - (intOf i).toNat)
  case atStart => exact ⟨0, Nat.zero_le _, rfl, Lib.hid rfl⟩
  case round =>
    obtain ⟨k, hk, rfl, hA⟩ := hrel
    by_cases hlt : k < s.size
    · have hsn : Hid (allB vrB (s.data.toList.take (k + 1)) = vrB s[k].toNat) := by
        rw [take_snoc s k hlt, allB_snoc, hA.out]; exact rfl
      have hno := Lib.hid (allB_no vrB s k hlt)
      have hnm : Hid (vrB s[k].toNat = (loB s[k].toNat || upB s[k].toNat || dgB s[k].toNat)) := rfl
      clear h2
      cases c1 : loB s[k].toNat
      · cases c2 : upB s[k].toNat
        · cases c3 : dgB s[k].toNat
          · have N : Hid (vrB s[k].toNat = false) := by rw [hnm.out, c1, c2, c3]; exact rfl
            go_wp2_with (first | (go_at_call 69; refine (rlower_any _ _).mono ?_; rintro e w' ⟨rfl, rfl⟩) | (go_at_call 68; refine (rupper_any _ _).mono ?_; rintro e w' ⟨rfl, rfl⟩) | (go_at_call 70; refine (rdigit_any _ _).mono ?_; rintro e w' ⟨rfl, rfl⟩))
            go_ret
            exact ⟨ret_bool (by rw [H.out, hno.out N.out]), rfl⟩
          · have N : Hid (vrB s[k].toNat = true) := by rw [hnm.out, c1, c2, c3]; exact rfl
            go_wp2_with (first | (go_at_call 69; refine (rlower_any _ _).mono ?_; rintro e w' ⟨rfl, rfl⟩) | (go_at_call 68; refine (rupper_any _ _).mono ?_; rintro e w' ⟨rfl, rfl⟩) | (go_at_call 70; refine (rdigit_any _ _).mono ?_; rintro e w' ⟨rfl, rfl⟩))
            go_round
            case rel => exact ⟨k + 1, by omega, by go_num, by rw [hsn.out]; exact N⟩
            case measure => simp [intOf]; omega
        · have N : Hid (vrB s[k].toNat = true) := by rw [hnm.out, c1, c2]; exact rfl
          go_wp2_with (first | (go_at_call 69; refine (rlower_any _ _).mono ?_; rintro e w' ⟨rfl, rfl⟩) | (go_at_call 68; refine (rupper_any _ _).mono ?_; rintro e w' ⟨rfl, rfl⟩) | (go_at_call 70; refine (rdigit_any _ _).mono ?_; rintro e w' ⟨rfl, rfl⟩))
          go_round
          case rel => exact ⟨k + 1, by omega, by go_num, by rw [hsn.out]; exact N⟩
          case measure => simp [intOf]; omega
      · have N : Hid (vrB s[k].toNat = true) := by rw [hnm.out, c1]; exact rfl
        go_wp2_with (first | (go_at_call 69; refine (rlower_any _ _).mono ?_; rintro e w' ⟨rfl, rfl⟩) | (go_at_call 68; refine (rupper_any _ _).mono ?_; rintro e w' ⟨rfl, rfl⟩) | (go_at_call 70; refine (rdigit_any _ _).mono ?_; rintro e w' ⟨rfl, rfl⟩))
        go_round
        case rel => exact ⟨k + 1, by omega, by go_num, by rw [hsn.out]; exact N⟩
        case measure => simp [intOf]; omega
    · have hx := allB_all vrB s k (by omega)
      rw [hA.out] at hx
      have HX := Lib.hid hx.symm
      clear hx
      go_wp2_with (first | (go_at_call 69; refine (rlower_any _ _).mono ?_; rintro e w' ⟨rfl, rfl⟩) | (go_at_call 68; refine (rupper_any _ _).mono ?_; rintro e w' ⟨rfl, rfl⟩) | (go_at_call 70; refine (rdigit_any _ _).mono ?_; rintro e w' ⟨rfl, rfl⟩))
      go_ret
      exact ⟨ret_bool (by rw [H.out, HX.out]), rfl⟩
end TermC
end Go.Proofs.YtihbnonbhelbmaaGreatDoor
