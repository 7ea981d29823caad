/- The contracts of Name and Variable, of the code and of the reference. Condition: the string's length fits an int. -/
import Derived.Test.YtihbnonbhelbmaaGreatDoorTermA
namespace Go.Proofs.YtihbnonbhelbmaaGreatDoor
open Go Go.RowKit
namespace TermB
open Kit LexM TermA
set_option maxHeartbeats 1600000 in
theorem name_any (s : ByteArray) (w : World) (hs : s.size ≤ 9223372036854775807) :
    Calls Tryz.prog 102 #[.string s] w fun e w' => e = .returned (.bool (nameL s.data.toList)) ∧ w = w' := by
  have E := Lib.hid (ByteArray.toList_eq s)
  by_cases h0 : s.size < 1
  · have H : Hid (nameL s.data.toList = false) := by
      have : s.data.toList = [] := by apply List.eq_nil_of_length_eq_zero; rw [len_eq]; omega
      rw [this]; exact rfl
    go_enter Tryz.func102, Tryz.ntmps102
    go_wp2_with (first | (go_at_call 72; refine (lower_any _ _).mono ?_; rintro e w' ⟨rfl, rfl⟩) | (go_at_call 73; refine (digit_any _ _).mono ?_; rintro e w' ⟨rfl, rfl⟩) | (go_at_call 132; refine (res_any _ _).mono ?_; rintro e w' ⟨rfl, rfl⟩))
    go_ret
    exact ⟨ret_bool H.out.symm, rfl⟩
  by_cases h1 : 16 < s.size
  · have H : Hid (nameL s.data.toList = false) := by
      unfold nameL; rw [decide_eq_false (by rw [len_eq]; omega)]; exact rfl
    go_enter Tryz.func102, Tryz.ntmps102
    go_wp2_with (first | (go_at_call 72; refine (lower_any _ _).mono ?_; rintro e w' ⟨rfl, rfl⟩) | (go_at_call 73; refine (digit_any _ _).mono ?_; rintro e w' ⟨rfl, rfl⟩) | (go_at_call 132; refine (res_any _ _).mono ?_; rintro e w' ⟨rfl, rfl⟩))
    go_ret
    exact ⟨ret_bool H.out.symm, rfl⟩
  have hp : 0 < s.size := by omega
  have hh := headB_eq loB s hp
  have hlen : decide (s.data.toList.length ≤ 16) = true := decide_eq_true (by rw [len_eq]; omega)
  cases h2 : loB s[0].toNat
  · have H : Hid (nameL s.data.toList = false) := by
      unfold nameL; rw [hh, h2, Bool.and_false]; exact rfl
    clear hh hlen
    go_enter Tryz.func102, Tryz.ntmps102
    go_wp2_with (first | (go_at_call 72; refine (lower_any _ _).mono ?_; rintro e w' ⟨rfl, rfl⟩) | (go_at_call 73; refine (digit_any _ _).mono ?_; rintro e w' ⟨rfl, rfl⟩) | (go_at_call 132; refine (res_any _ _).mono ?_; rintro e w' ⟨rfl, rfl⟩))
    go_ret
    exact ⟨ret_bool H.out.symm, rfl⟩
  cases h3 : resB s.data.toList
  case true =>
    have H : Hid (nameL s.data.toList = false) := by
      unfold nameL; rw [h3, Bool.not_true, Bool.and_false]; exact rfl
    clear hh hlen
    go_enter Tryz.func102, Tryz.ntmps102
    go_wp2_with (first | (go_at_call 72; refine (lower_any _ _).mono ?_; rintro e w' ⟨rfl, rfl⟩) | (go_at_call 73; refine (digit_any _ _).mono ?_; rintro e w' ⟨rfl, rfl⟩) | (go_at_call 132; refine (res_any _ _).mono ?_; rintro e w' ⟨rfl, rfl⟩))
    all_goals
      go_ret
      exact ⟨ret_bool H.out.symm, rfl⟩
  have H : Hid (nameL s.data.toList = allB nmB s.data.toList) := by
    unfold nameL; rw [hh, h2, h3, hlen]; exact rfl
  clear hh hlen
  go_enter Tryz.func102, Tryz.ntmps102
  go_wp2_with (first | (go_at_call 72; refine (lower_any _ _).mono ?_; rintro e w' ⟨rfl, rfl⟩) | (go_at_call 73; refine (digit_any _ _).mono ?_; rintro e w' ⟨rfl, rfl⟩) | (go_at_call 132; refine (res_any _ _).mono ?_; rintro e w' ⟨rfl, rfl⟩))
  go_loop [24] (fun i => ∃ k : Nat, k ≤ s.size ∧ i = .int .i64 k ∧ Hid (allB nmB (s.data.toList.take k) = true)) (fun i => s.size - (intOf i).toNat)
  case atStart => exact ⟨0, Nat.zero_le _, rfl, Lib.hid rfl⟩
  case round =>
    obtain ⟨k, hk, rfl, hA⟩ := hrel
    by_cases hlt : k < s.size
    · have hsn : Hid (allB nmB (s.data.toList.take (k + 1)) = nmB s[k].toNat) := by
        rw [take_snoc s k hlt, allB_snoc, hA.out]; exact rfl
      have hno := Lib.hid (allB_no nmB s k hlt)
      have hb : ∀ c, (s[k].toNat : Int) = c → nmB s[k].toNat = nmB c := fun c h => by rw [h]
      have hnm : Hid (nmB s[k].toNat = (loB s[k].toNat || dgB s[k].toNat || ((s[k].toNat : Int) == 45))) := rfl
      clear hb h2
      cases c1 : loB s[k].toNat
      · cases c2 : dgB s[k].toNat
        · cases c3 : ((s[k].toNat : Int) == 45)
          · have N : Hid (nmB s[k].toNat = false) := by rw [hnm.out, c1, c2, c3]; exact rfl
            have c4 : ((s[k].toNat : Int) != 45) = true := by rw [bne, c3]; rfl
            go_wp2_with (first | (go_at_call 72; refine (lower_any _ _).mono ?_; rintro e w' ⟨rfl, rfl⟩) | (go_at_call 73; refine (digit_any _ _).mono ?_; rintro e w' ⟨rfl, rfl⟩) | (go_at_call 132; refine (res_any _ _).mono ?_; rintro e w' ⟨rfl, rfl⟩))
            go_ret
            exact ⟨ret_bool (by rw [H.out, hno.out N.out]), rfl⟩
          · have N : Hid (nmB s[k].toNat = true) := by rw [hnm.out, c1, c2, c3]; exact rfl
            have c4 : ((s[k].toNat : Int) != 45) = false := by rw [bne, c3]; rfl
            go_wp2_with (first | (go_at_call 72; refine (lower_any _ _).mono ?_; rintro e w' ⟨rfl, rfl⟩) | (go_at_call 73; refine (digit_any _ _).mono ?_; rintro e w' ⟨rfl, rfl⟩) | (go_at_call 132; refine (res_any _ _).mono ?_; rintro e w' ⟨rfl, rfl⟩))
            go_round
            case rel => exact ⟨k + 1, by omega, by go_num, by rw [hsn.out]; exact N⟩
            case measure => simp [intOf]; omega
        · have N : Hid (nmB s[k].toNat = true) := by rw [hnm.out, c1, c2]; exact rfl
          go_wp2_with (first | (go_at_call 72; refine (lower_any _ _).mono ?_; rintro e w' ⟨rfl, rfl⟩) | (go_at_call 73; refine (digit_any _ _).mono ?_; rintro e w' ⟨rfl, rfl⟩) | (go_at_call 132; refine (res_any _ _).mono ?_; rintro e w' ⟨rfl, rfl⟩))
          go_round
          case rel => exact ⟨k + 1, by omega, by go_num, by rw [hsn.out]; exact N⟩
          case measure => simp [intOf]; omega
      · have N : Hid (nmB s[k].toNat = true) := by rw [hnm.out, c1]; exact rfl
        go_wp2_with (first | (go_at_call 72; refine (lower_any _ _).mono ?_; rintro e w' ⟨rfl, rfl⟩) | (go_at_call 73; refine (digit_any _ _).mono ?_; rintro e w' ⟨rfl, rfl⟩) | (go_at_call 132; refine (res_any _ _).mono ?_; rintro e w' ⟨rfl, rfl⟩))
        go_round
        case rel => exact ⟨k + 1, by omega, by go_num, by rw [hsn.out]; exact N⟩
        case measure => simp [intOf]; omega
    · have hx := allB_all nmB s k (by omega)
      rw [hA.out] at hx
      have HX := Lib.hid hx.symm
      clear hx
      go_wp2_with (first | (go_at_call 72; refine (lower_any _ _).mono ?_; rintro e w' ⟨rfl, rfl⟩) | (go_at_call 73; refine (digit_any _ _).mono ?_; rintro e w' ⟨rfl, rfl⟩) | (go_at_call 132; refine (res_any _ _).mono ?_; rintro e w' ⟨rfl, rfl⟩))
      go_ret
      exact ⟨ret_bool (by rw [H.out, HX.out]), rfl⟩
set_option maxHeartbeats 1600000 in
theorem rname_any (s : ByteArray) (w : World) (hs : s.size ≤ 9223372036854775807) :
    Calls Tryz.prog 100 #[.string s] w fun e w' => e = .returned (.bool (nameL s.data.toList)) ∧ w = w' := by
  have E := Lib.hid (ByteArray.toList_eq s)
  by_cases h0 : s.size < 1
  · have H : Hid (nameL s.data.toList = false) := by
      have : s.data.toList = [] := by apply List.eq_nil_of_length_eq_zero; rw [len_eq]; omega
      rw [this]; exact rfl
    go_enter Tryz.func100, Tryz.ntmps100
    go_wp2_with (first | (go_at_call 69; refine (rlower_any _ _).mono ?_; rintro e w' ⟨rfl, rfl⟩) | (go_at_call 70; refine (rdigit_any _ _).mono ?_; rintro e w' ⟨rfl, rfl⟩))
    go_ret
    exact ⟨ret_bool H.out.symm, rfl⟩
  by_cases h1 : 16 < s.size
  · have H : Hid (nameL s.data.toList = false) := by
      unfold nameL; rw [decide_eq_false (by rw [len_eq]; omega)]; exact rfl
    go_enter Tryz.func100, Tryz.ntmps100
    go_wp2_with (first | (go_at_call 69; refine (rlower_any _ _).mono ?_; rintro e w' ⟨rfl, rfl⟩) | (go_at_call 70; refine (rdigit_any _ _).mono ?_; rintro e w' ⟨rfl, rfl⟩))
    go_ret
    exact ⟨ret_bool H.out.symm, rfl⟩
  have hp : 0 < s.size := by omega
  have hh := headB_eq loB s hp
  have hlen : decide (s.data.toList.length ≤ 16) = true := decide_eq_true (by rw [len_eq]; omega)
  cases h2 : loB s[0].toNat
  · have H : Hid (nameL s.data.toList = false) := by
      unfold nameL; rw [hh, h2, Bool.and_false]; exact rfl
    clear hh hlen
    go_enter Tryz.func100, Tryz.ntmps100
    go_wp2_with (first | (go_at_call 69; refine (rlower_any _ _).mono ?_; rintro e w' ⟨rfl, rfl⟩) | (go_at_call 70; refine (rdigit_any _ _).mono ?_; rintro e w' ⟨rfl, rfl⟩))
    go_ret
    exact ⟨ret_bool H.out.symm, rfl⟩
  cases h3 : resB s.data.toList
  case true =>
    have H : Hid (nameL s.data.toList = false) := by
      unfold nameL; rw [h3, Bool.not_true, Bool.and_false]; exact rfl
    clear hh hlen
    have q := h3
    unfold resB at q
    rw [← E.out] at q
    clear h3
    cases q1 : (s.toList == [105, 102])
    all_goals cases q2 : (s.toList == [97, 110, 100])
    all_goals cases q3 : (s.toList == [110, 111, 116])
    all_goals rw [q1, q2, q3] at q
    all_goals first | (exact absurd q (by decide)) | skip
    all_goals clear q
    all_goals have p1 : (s.toList = [105, 102]) = ((s.toList == [105, 102]) = true) := by rw [beq_iff_eq]
    all_goals have p2 : (s.toList = [97, 110, 100]) = ((s.toList == [97, 110, 100]) = true) := by rw [beq_iff_eq]
    all_goals have p3 : (s.toList = [110, 111, 116]) = ((s.toList == [110, 111, 116]) = true) := by rw [beq_iff_eq]
    all_goals rw [q1] at p1
    all_goals rw [q2] at p2
    all_goals rw [q3] at p3
    all_goals simp at p1 p2 p3
    all_goals
      go_enter Tryz.func100, Tryz.ntmps100
      go_wp2_with (first | (go_at_call 69; refine (rlower_any _ _).mono ?_; rintro e w' ⟨rfl, rfl⟩) | (go_at_call 70; refine (rdigit_any _ _).mono ?_; rintro e w' ⟨rfl, rfl⟩))
      all_goals
        go_ret
        exact ⟨ret_bool H.out.symm, rfl⟩
  have H : Hid (nameL s.data.toList = allB nmB s.data.toList) := by
    unfold nameL; rw [hh, h2, h3, hlen]; exact rfl
  clear hh hlen
  have q := h3
  unfold resB at q
  rw [← E.out] at q
  simp only [Bool.or_eq_false_iff] at q
  obtain ⟨⟨q1, q2⟩, q3⟩ := q
  have p1 : ¬ s.toList = [105, 102] := by simpa using q1
  have p2 : ¬ s.toList = [97, 110, 100] := by simpa using q2
  have p3 : ¬ s.toList = [110, 111, 116] := by simpa using q3
  clear h3
  go_enter Tryz.func100, Tryz.ntmps100
  go_wp2_with (first | (go_at_call 69; refine (rlower_any _ _).mono ?_; rintro e w' ⟨rfl, rfl⟩) | (go_at_call 70; refine (rdigit_any _ _).mono ?_; rintro e w' ⟨rfl, rfl⟩))
  go_loop [32] (fun i => ∃ k : Nat, k ≤ s.size ∧ i = .int .i64 k ∧ Hid (allB nmB (s.data.toList.take k) = true)) (fun i => s.size - (intOf i).toNat)
  case atStart => exact ⟨0, Nat.zero_le _, rfl, Lib.hid rfl⟩
  case round =>
    obtain ⟨k, hk, rfl, hA⟩ := hrel
    by_cases hlt : k < s.size
    · have hsn : Hid (allB nmB (s.data.toList.take (k + 1)) = nmB s[k].toNat) := by
        rw [take_snoc s k hlt, allB_snoc, hA.out]; exact rfl
      have hno := Lib.hid (allB_no nmB s k hlt)
      have hb : ∀ c, (s[k].toNat : Int) = c → nmB s[k].toNat = nmB c := fun c h => by rw [h]
      have hnm : Hid (nmB s[k].toNat = (loB s[k].toNat || dgB s[k].toNat || ((s[k].toNat : Int) == 45))) := rfl
      clear hb h2
      cases c1 : loB s[k].toNat
      · cases c2 : dgB s[k].toNat
        · cases c3 : ((s[k].toNat : Int) == 45)
          · have N : Hid (nmB s[k].toNat = false) := by rw [hnm.out, c1, c2, c3]; exact rfl
            have c4 : ((s[k].toNat : Int) != 45) = true := by rw [bne, c3]; rfl
            go_wp2_with (first | (go_at_call 69; refine (rlower_any _ _).mono ?_; rintro e w' ⟨rfl, rfl⟩) | (go_at_call 70; refine (rdigit_any _ _).mono ?_; rintro e w' ⟨rfl, rfl⟩))
            go_ret
            exact ⟨ret_bool (by rw [H.out, hno.out N.out]), rfl⟩
          · have N : Hid (nmB s[k].toNat = true) := by rw [hnm.out, c1, c2, c3]; exact rfl
            have c4 : ((s[k].toNat : Int) != 45) = false := by rw [bne, c3]; rfl
            go_wp2_with (first | (go_at_call 69; refine (rlower_any _ _).mono ?_; rintro e w' ⟨rfl, rfl⟩) | (go_at_call 70; refine (rdigit_any _ _).mono ?_; rintro e w' ⟨rfl, rfl⟩))
            go_round
            case rel => exact ⟨k + 1, by omega, by go_num, by rw [hsn.out]; exact N⟩
            case measure => simp [intOf]; omega
        · have N : Hid (nmB s[k].toNat = true) := by rw [hnm.out, c1, c2]; exact rfl
          go_wp2_with (first | (go_at_call 69; refine (rlower_any _ _).mono ?_; rintro e w' ⟨rfl, rfl⟩) | (go_at_call 70; refine (rdigit_any _ _).mono ?_; rintro e w' ⟨rfl, rfl⟩))
          go_round
          case rel => exact ⟨k + 1, by omega, by go_num, by rw [hsn.out]; exact N⟩
          case measure => simp [intOf]; omega
      · have N : Hid (nmB s[k].toNat = true) := by rw [hnm.out, c1]; exact rfl
        go_wp2_with (first | (go_at_call 69; refine (rlower_any _ _).mono ?_; rintro e w' ⟨rfl, rfl⟩) | (go_at_call 70; refine (rdigit_any _ _).mono ?_; rintro e w' ⟨rfl, rfl⟩))
        go_round
        case rel => exact ⟨k + 1, by omega, by go_num, by rw [hsn.out]; exact N⟩
        case measure => simp [intOf]; omega
    · have hx := allB_all nmB s k (by omega)
      rw [hA.out] at hx
      have HX := Lib.hid hx.symm
      clear hx
      go_wp2_with (first | (go_at_call 69; refine (rlower_any _ _).mono ?_; rintro e w' ⟨rfl, rfl⟩) | (go_at_call 70; refine (rdigit_any _ _).mono ?_; rintro e w' ⟨rfl, rfl⟩))
      go_ret
      exact ⟨ret_bool (by rw [H.out, HX.out]), rfl⟩
end TermB
end Go.Proofs.YtihbnonbhelbmaaGreatDoor
