/- Texts laid together: TermB; TermC; TermD. Their own heads stand before each. -/
import Derived.Test.YtaenalpckloikaaGreatDoorGA1
/- The contracts of Name and Variable, of the code and of the reference. Condition: the string's length fits an int. -/
namespace Go.Proofs.YtaenalpckloikaaGreatDoor
open Go Go.RowKit
namespace TermB
open Kit LexM TermA
set_option maxHeartbeats 1600000 in
theorem name_any (s : ByteArray) (w : World) (hs : s.size ≤ 9223372036854775807) :
    Calls Tryz.prog 102 #[.string s] w fun e w' => e = .returned (.bool (nameL s.data.toList)) ∧ w = w' := by
  have E := Lib.hid (ByteArray.toList_eq s)
  by_cases h0 : s.size < 1
  · have H : Hid (nameL s.data.toList = false) := by
      have : s.data.toList = [] := by apply List.eq_nil_of_length_eq_zero; rw [len_eq]; omega
      rw [this]; exact rfl
    go_enter Tryz.func102, Tryz.ntmps102
    go_wp2_with (first | (go_at_call 72; refine (lower_any _ _).mono ?_; rintro e w' ⟨rfl, rfl⟩) | (go_at_call 73; refine (digit_any _ _).mono ?_; rintro e w' ⟨rfl, rfl⟩) | (go_at_call 132; refine (res_any _ _).mono ?_; rintro e w' ⟨rfl, rfl⟩))
    go_ret
    exact ⟨ret_bool H.out.symm, rfl⟩
  by_cases h1 : 16 < s.size
  · have H : Hid (nameL s.data.toList = false) := by
      unfold nameL; rw [decide_eq_false (by rw [len_eq]; omega)]; exact rfl
    go_enter Tryz.func102, Tryz.ntmps102
    go_wp2_with (first | (go_at_call 72; refine (lower_any _ _).mono ?_; rintro e w' ⟨rfl, rfl⟩) | (go_at_call 73; refine (digit_any _ _).mono ?_; rintro e w' ⟨rfl, rfl⟩) | (go_at_call 132; refine (res_any _ _).mono ?_; rintro e w' ⟨rfl, rfl⟩))
    go_ret
    exact ⟨ret_bool H.out.symm, rfl⟩
  have hp : 0 < s.size := by omega
  have hh := headB_eq loB s hp
  have hlen : decide (s.data.toList.length ≤ 16) = true := decide_eq_true (by rw [len_eq]; omega)
  cases h2 : loB s[0].toNat
  · have H : Hid (nameL s.data.toList = false) := by
      unfold nameL; rw [hh, h2, Bool.and_false]; exact rfl
    clear hh hlen
    go_enter Tryz.func102, Tryz.ntmps102
    go_wp2_with (first | (go_at_call 72; refine (lower_any _ _).mono ?_; rintro e w' ⟨rfl, rfl⟩) | (go_at_call 73; refine (digit_any _ _).mono ?_; rintro e w' ⟨rfl, rfl⟩) | (go_at_call 132; refine (res_any _ _).mono ?_; rintro e w' ⟨rfl, rfl⟩))
    go_ret
    exact ⟨ret_bool H.out.symm, rfl⟩
  cases h3 : resB s.data.toList
  case true =>
    have H : Hid (nameL s.data.toList = false) := by
      unfold nameL; rw [h3, Bool.not_true, Bool.and_false]; exact rfl
    clear hh hlen
    go_enter Tryz.func102, Tryz.ntmps102
    go_wp2_with (first | (go_at_call 72; refine (lower_any _ _).mono ?_; rintro e w' ⟨rfl, rfl⟩) | (go_at_call 73; refine (digit_any _ _).mono ?_; rintro e w' ⟨rfl, rfl⟩) | (go_at_call 132; refine (res_any _ _).mono ?_; rintro e w' ⟨rfl, rfl⟩))
    all_goals
      go_ret
      exact ⟨ret_bool H.out.symm, rfl⟩
  have H : Hid (nameL s.data.toList = allB nmB s.data.toList) := by
    unfold nameL; rw [hh, h2, h3, hlen]; exact rfl
  clear hh hlen
  go_enter Tryz.func102, Tryz.ntmps102
  go_wp2_with (first | (go_at_call 72; refine (lower_any _ _).mono ?_; rintro e w' ⟨rfl, rfl⟩) | (go_at_call 73; refine (digit_any _ _).mono ?_; rintro e w' ⟨rfl, rfl⟩) | (go_at_call 132; refine (res_any _ _).mono ?_; rintro e w' ⟨rfl, rfl⟩))
  go_loop [24] (fun i => ∃ k : Nat, k ≤ s.size ∧ i = .int .i64 k ∧ Hid (allB nmB (s.data.toList.take k) = true)) (fun i => s.size - (intOf i).toNat)
  case atStart => exact ⟨0, Nat.zero_le _, rfl, Lib.hid rfl⟩
  case round =>
    obtain ⟨k, hk, rfl, hA⟩ := hrel
    by_cases hlt : k < s.size
    · have hsn : Hid (allB nmB (s.data.toList.take (k + 1)) = nmB s[k].toNat) := by
        rw [take_snoc s k hlt, allB_snoc, hA.out]; exact rfl
      have hno := Lib.hid (allB_no nmB s k hlt)
      have hb : ∀ c, (s[k].toNat : Int) = c → nmB s[k].toNat = nmB c := fun c h => by rw [h]
      have hnm : Hid (nmB s[k].toNat = (loB s[k].toNat || dgB s[k].toNat || ((s[k].toNat : Int) == 45))) := rfl
      clear hb h2
      cases c1 : loB s[k].toNat
      · cases c2 : dgB s[k].toNat
        · cases c3 : ((s[k].toNat : Int) == 45)
          · have N : Hid (nmB s[k].toNat = false) := by rw [hnm.out, c1, c2, c3]; exact rfl
            have c4 : ((s[k].toNat : Int) != 45) = true := by rw [bne, c3]; rfl
            go_wp2_with (first | (go_at_call 72; refine (lower_any _ _).mono ?_; rintro e w' ⟨rfl, rfl⟩) | (go_at_call 73; refine (digit_any _ _).mono ?_; rintro e w' ⟨rfl, rfl⟩) | (go_at_call 132; refine (res_any _ _).mono ?_; rintro e w' ⟨rfl, rfl⟩))
            go_ret
            exact ⟨ret_bool (by rw [H.out, hno.out N.out]), rfl⟩
          · have N : Hid (nmB s[k].toNat = true) := by rw [hnm.out, c1, c2, c3]; exact rfl
            have c4 : ((s[k].toNat : Int) != 45) = false := by rw [bne, c3]; rfl
            go_wp2_with (first | (go_at_call 72; refine (lower_any _ _).mono ?_; rintro e w' ⟨rfl, rfl⟩) | (go_at_call 73; refine (digit_any _ _).mono ?_; rintro e w' ⟨rfl, rfl⟩) | (go_at_call 132; refine (res_any _ _).mono ?_; rintro e w' ⟨rfl, rfl⟩))
            go_round
            case rel => exact ⟨k + 1, by omega, by go_num, by rw [hsn.out]; exact N⟩
            case measure => simp [intOf]; omega
        · have N : Hid (nmB s[k].toNat = true) := by rw [hnm.out, c1, c2]; exact rfl
          go_wp2_with (first | (go_at_call 72; refine (lower_any _ _).mono ?_; rintro e w' ⟨rfl, rfl⟩) | (go_at_call 73; refine (digit_any _ _).mono ?_; rintro e w' ⟨rfl, rfl⟩) | (go_at_call 132; refine (res_any _ _).mono ?_; rintro e w' ⟨rfl, rfl⟩))
          go_round
          case rel => exact ⟨k + 1, by omega, by go_num, by rw [hsn.out]; exact N⟩
          case measure => simp [intOf]; omega
      · have N : Hid (nmB s[k].toNat = true) := by rw [hnm.out, c1]; exact rfl
        go_wp2_with (first | (go_at_call 72; refine (lower_any _ _).mono ?_; rintro e w' ⟨rfl, rfl⟩) | (go_at_call 73; refine (digit_any _ _).mono ?_; rintro e w' ⟨rfl, rfl⟩) | (go_at_call 132; refine (res_any _ _).mono ?_; rintro e w' ⟨rfl, rfl⟩))
        go_round
        case rel => exact ⟨k + 1, by omega, by go_num, by rw [hsn.out]; exact N⟩
        case measure => simp [intOf]; omega
    · have hx := allB_all nmB s k (by omega)
      rw [hA.out] at hx
      have HX := Lib.hid hx.symm
      clear hx
      go_wp2_with (first | (go_at_call 72; refine (lower_any _ _).mono ?_; rintro e w' ⟨rfl, rfl⟩) | (go_at_call 73; refine (digit_any _ _).mono ?_; rintro e w' ⟨rfl, rfl⟩) | (go_at_call 132; refine (res_any _ _).mono ?_; rintro e w' ⟨rfl, rfl⟩))
      go_ret
      exact ⟨ret_bool (by rw [H.out, HX.out]), rfl⟩
set_option maxHeartbeats 1600000 in
theorem rname_any (s : ByteArray) (w : World) (hs : s.size ≤ 9223372036854775807) :
    Calls Tryz.prog 100 #[.string s] w fun e w' => e = .returned (.bool (nameL s.data.toList)) ∧ w = w' := by
  have E := Lib.hid (ByteArray.toList_eq s)
  by_cases h0 : s.size < 1
  · have H : Hid (nameL s.data.toList = false) := by
      have : s.data.toList = [] := by apply List.eq_nil_of_length_eq_zero; rw [len_eq]; omega
      rw [this]; exact rfl
    go_enter Tryz.func100, Tryz.ntmps100
    go_wp2_with (first | (go_at_call 69; refine (rlower_any _ _).mono ?_; rintro e w' ⟨rfl, rfl⟩) | (go_at_call 70; refine (rdigit_any _ _).mono ?_; rintro e w' ⟨rfl, rfl⟩))
    go_ret
    exact ⟨ret_bool H.out.symm, rfl⟩
  by_cases h1 : 16 < s.size
  · have H : Hid (nameL s.data.toList = false) := by
      unfold nameL; rw [decide_eq_false (by rw [len_eq]; omega)]; exact rfl
    go_enter Tryz.func100, Tryz.ntmps100
    go_wp2_with (first | (go_at_call 69; refine (rlower_any _ _).mono ?_; rintro e w' ⟨rfl, rfl⟩) | (go_at_call 70; refine (rdigit_any _ _).mono ?_; rintro e w' ⟨rfl, rfl⟩))
    go_ret
    exact ⟨ret_bool H.out.symm, rfl⟩
  have hp : 0 < s.size := by omega
  have hh := headB_eq loB s hp
  have hlen : decide (s.data.toList.length ≤ 16) = true := decide_eq_true (by rw [len_eq]; omega)
  cases h2 : loB s[0].toNat
  · have H : Hid (nameL s.data.toList = false) := by
      unfold nameL; rw [hh, h2, Bool.and_false]; exact rfl
    clear hh hlen
    go_enter Tryz.func100, Tryz.ntmps100
    go_wp2_with (first | (go_at_call 69; refine (rlower_any _ _).mono ?_; rintro e w' ⟨rfl, rfl⟩) | (go_at_call 70; refine (rdigit_any _ _).mono ?_; rintro e w' ⟨rfl, rfl⟩))
    go_ret
    exact ⟨ret_bool H.out.symm, rfl⟩
  cases h3 : resB s.data.toList
  case true =>
    have H : Hid (nameL s.data.toList = false) := by
      unfold nameL; rw [h3, Bool.not_true, Bool.and_false]; exact rfl
    clear hh hlen
    have q := h3
    unfold resB at q
    rw [← E.out] at q
    clear h3
    cases q1 : (s.toList == [105, 102])
    all_goals cases q2 : (s.toList == [97, 110, 100])
    all_goals cases q3 : (s.toList == [110, 111, 116])
    all_goals rw [q1, q2, q3] at q
    all_goals first | (exact absurd q (by decide)) | skip
    all_goals clear q
    all_goals have p1 : (s.toList = [105, 102]) = ((s.toList == [105, 102]) = true) := by rw [beq_iff_eq]
    all_goals have p2 : (s.toList = [97, 110, 100]) = ((s.toList == [97, 110, 100]) = true) := by rw [beq_iff_eq]
    all_goals have p3 : (s.toList = [110, 111, 116]) = ((s.toList == [110, 111, 116]) = true) := by rw [beq_iff_eq]
    all_goals rw [q1] at p1
    all_goals rw [q2] at p2
    all_goals rw [q3] at p3
    all_goals simp at p1 p2 p3
    all_goals
      go_enter Tryz.func100, Tryz.ntmps100
      go_wp2_with (first | (go_at_call 69; refine (rlower_any _ _).mono ?_; rintro e w' ⟨rfl, rfl⟩) | (go_at_call 70; refine (rdigit_any _ _).mono ?_; rintro e w' ⟨rfl, rfl⟩))
      all_goals
        go_ret
        exact ⟨ret_bool H.out.symm, rfl⟩
  have H : Hid (nameL s.data.toList = allB nmB s.data.toList) := by
    unfold nameL; rw [hh, h2, h3, hlen]; exact rfl
  clear hh hlen
  have q := h3
  unfold resB at q
  rw [← E.out] at q
  simp only [Bool.or_eq_false_iff] at q
  obtain ⟨⟨q1, q2⟩, q3⟩ := q
  have p1 : ¬ s.toList = [105, 102] := by simpa using q1
  have p2 : ¬ s.toList = [97, 110, 100] := by simpa using q2
  have p3 : ¬ s.toList = [110, 111, 116] := by simpa using q3
  clear h3
  go_enter Tryz.func100, Tryz.ntmps100
  go_wp2_with (first | (go_at_call 69; refine (rlower_any _ _).mono ?_; rintro e w' ⟨rfl, rfl⟩) | (go_at_call 70; refine (rdigit_any _ _).mono ?_; rintro e w' ⟨rfl, rfl⟩))
  go_loop [32] (fun i => ∃ k : Nat, k ≤ s.size ∧ i = .int .i64 k ∧ Hid (allB nmB (s.data.toList.take k) = true)) (fun i => s.size - (intOf i).toNat)
  case atStart => exact ⟨0, Nat.zero_le _, rfl, Lib.hid rfl⟩
  case round =>
    obtain ⟨k, hk, rfl, hA⟩ := hrel
    by_cases hlt : k < s.size
    · have hsn : Hid (allB nmB (s.data.toList.take (k + 1)) = nmB s[k].toNat) := by
        rw [take_snoc s k hlt, allB_snoc, hA.out]; exact rfl
      have hno := Lib.hid (allB_no nmB s k hlt)
      have hb : ∀ c, (s[k].toNat : Int) = c → nmB s[k].toNat = nmB c := fun c h => by rw [h]
      have hnm : Hid (nmB s[k].toNat = (loB s[k].toNat || dgB s[k].toNat || ((s[k].toNat : Int) == 45))) := rfl
      clear hb h2
      cases c1 : loB s[k].toNat
      · cases c2 : dgB s[k].toNat
        · cases c3 : ((s[k].toNat : Int) == 45)
          · have N : Hid (nmB s[k].toNat = false) := by rw [hnm.out, c1, c2, c3]; exact rfl
            have c4 : ((s[k].toNat : Int) != 45) = true := by rw [bne, c3]; rfl
            go_wp2_with (first | (go_at_call 69; refine (rlower_any _ _).mono ?_; rintro e w' ⟨rfl, rfl⟩) | (go_at_call 70; refine (rdigit_any _ _).mono ?_; rintro e w' ⟨rfl, rfl⟩))
            go_ret
            exact ⟨ret_bool (by rw [H.out, hno.out N.out]), rfl⟩
          · have N : Hid (nmB s[k].toNat = true) := by rw [hnm.out, c1, c2, c3]; exact rfl
            have c4 : ((s[k].toNat : Int) != 45) = false := by rw [bne, c3]; rfl
            go_wp2_with (first | (go_at_call 69; refine (rlower_any _ _).mono ?_; rintro e w' ⟨rfl, rfl⟩) | (go_at_call 70; refine (rdigit_any _ _).mono ?_; rintro e w' ⟨rfl, rfl⟩))
            go_round
            case rel => exact ⟨k + 1, by omega, by go_num, by rw [hsn.out]; exact N⟩
            case measure => simp [intOf]; omega
        · have N : Hid (nmB s[k].toNat = true) := by rw [hnm.out, c1, c2]; exact rfl
          go_wp2_with (first | (go_at_call 69; refine (rlower_any _ _).mono ?_; rintro e w' ⟨rfl, rfl⟩) | (go_at_call 70; refine (rdigit_any _ _).mono ?_; rintro e w' ⟨rfl, rfl⟩))
          go_round
          case rel => exact ⟨k + 1, by omega, by go_num, by rw [hsn.out]; exact N⟩
          case measure => simp [intOf]; omega
      · have N : Hid (nmB s[k].toNat = true) := by rw [hnm.out, c1]; exact rfl
        go_wp2_with (first | (go_at_call 69; refine (rlower_any _ _).mono ?_; rintro e w' ⟨rfl, rfl⟩) | (go_at_call 70; refine (rdigit_any _ _).mono ?_; rintro e w' ⟨rfl, rfl⟩))
        go_round
        case rel => exact ⟨k + 1, by omega, by go_num, by rw [hsn.out]; exact N⟩
        case measure => simp [intOf]; omega
    · have hx := allB_all nmB s k (by omega)
      rw [hA.out] at hx
      have HX := Lib.hid hx.symm
      clear hx
      go_wp2_with (first | (go_at_call 69; refine (rlower_any _ _).mono ?_; rintro e w' ⟨rfl, rfl⟩) | (go_at_call 70; refine (rdigit_any _ _).mono ?_; rintro e w' ⟨rfl, rfl⟩))
      go_ret
      exact ⟨ret_bool (by rw [H.out, HX.out]), rfl⟩
end TermB
end Go.Proofs.YtaenalpckloikaaGreatDoor
/- The contracts of Variable and Number, of the code and of the reference. Condition: the string's length. -/
namespace Go.Proofs.YtaenalpckloikaaGreatDoor
open Go Go.RowKit
namespace TermC
open Kit LexM TermA
set_option maxHeartbeats 1600000 in
theorem var_any (s : ByteArray) (w : World) (hs : s.size ≤ 9223372036854775807) :
    Calls Tryz.prog 39 #[.string s] w fun e w' => e = .returned (.bool (varL s.data.toList)) ∧ w = w' := by
  by_cases h0 : s.size < 1
  · have H : Hid (varL s.data.toList = false) := by
      have : s.data.toList = [] := by apply List.eq_nil_of_length_eq_zero; rw [len_eq]; omega
      rw [this]; exact rfl
    go_enter Tryz.func39, Tryz.ntmps39
    go_wp2_with (first | (go_at_call 72; refine (lower_any _ _).mono ?_; rintro e w' ⟨rfl, rfl⟩) | (go_at_call 71; refine (upper_any _ _).mono ?_; rintro e w' ⟨rfl, rfl⟩) | (go_at_call 73; refine (digit_any _ _).mono ?_; rintro e w' ⟨rfl, rfl⟩))
    go_ret
    exact ⟨ret_bool H.out.symm, rfl⟩
  by_cases h1 : 16 < s.size
  · have H : Hid (varL s.data.toList = false) := by
      unfold varL; rw [decide_eq_false (by rw [len_eq]; omega)]; exact rfl
    go_enter Tryz.func39, Tryz.ntmps39
    go_wp2_with (first | (go_at_call 72; refine (lower_any _ _).mono ?_; rintro e w' ⟨rfl, rfl⟩) | (go_at_call 71; refine (upper_any _ _).mono ?_; rintro e w' ⟨rfl, rfl⟩) | (go_at_call 73; refine (digit_any _ _).mono ?_; rintro e w' ⟨rfl, rfl⟩))
    go_ret
    exact ⟨ret_bool H.out.symm, rfl⟩
  have hp : 0 < s.size := by omega
  have hh := headB_eq upB s hp
  have hlen : decide (s.data.toList.length ≤ 16) = true := decide_eq_true (by rw [len_eq]; omega)
  cases h2 : upB s[0].toNat
  · have H : Hid (varL s.data.toList = false) := by
      unfold varL; rw [hh, h2, Bool.and_false]; exact rfl
    clear hh hlen
    go_enter Tryz.func39, Tryz.ntmps39
    go_wp2_with (first | (go_at_call 72; refine (lower_any _ _).mono ?_; rintro e w' ⟨rfl, rfl⟩) | (go_at_call 71; refine (upper_any _ _).mono ?_; rintro e w' ⟨rfl, rfl⟩) | (go_at_call 73; refine (digit_any _ _).mono ?_; rintro e w' ⟨rfl, rfl⟩))
    go_ret
    exact ⟨ret_bool H.out.symm, rfl⟩
  have H : Hid (varL s.data.toList = allB vrB s.data.toList) := by
    unfold varL; rw [hh, h2, hlen]; exact rfl
  clear hh hlen
  go_enter Tryz.func39, Tryz.ntmps39
  go_wp2_with (first | (go_at_call 72; refine (lower_any _ _).mono ?_; rintro e w' ⟨rfl, rfl⟩) | (go_at_call 71; refine (upper_any _ _).mono ?_; rintro e w' ⟨rfl, rfl⟩) | (go_at_call 73; refine (digit_any _ _).mono ?_; rintro e w' ⟨rfl, rfl⟩))
  go_loop [20] (fun i => ∃ k : Nat, k ≤ s.size ∧ i = .int .i64 k ∧ Hid (allB vrB (s.data.toList.take k) = true)) (fun i => s.size - (intOf i).toNat)
  case atStart => exact ⟨0, Nat.zero_le _, rfl, Lib.hid rfl⟩
  case round =>
    obtain ⟨k, hk, rfl, hA⟩ := hrel
    by_cases hlt : k < s.size
    · have hsn : Hid (allB vrB (s.data.toList.take (k + 1)) = vrB s[k].toNat) := by
        rw [take_snoc s k hlt, allB_snoc, hA.out]; exact rfl
      have hno := Lib.hid (allB_no vrB s k hlt)
      have hnm : Hid (vrB s[k].toNat = (loB s[k].toNat || upB s[k].toNat || dgB s[k].toNat)) := rfl
      clear h2
      cases c1 : loB s[k].toNat
      · cases c2 : upB s[k].toNat
        · cases c3 : dgB s[k].toNat
          · have N : Hid (vrB s[k].toNat = false) := by rw [hnm.out, c1, c2, c3]; exact rfl
            go_wp2_with (first | (go_at_call 72; refine (lower_any _ _).mono ?_; rintro e w' ⟨rfl, rfl⟩) | (go_at_call 71; refine (upper_any _ _).mono ?_; rintro e w' ⟨rfl, rfl⟩) | (go_at_call 73; refine (digit_any _ _).mono ?_; rintro e w' ⟨rfl, rfl⟩))
            go_ret
            exact ⟨ret_bool (by rw [H.out, hno.out N.out]), rfl⟩
          · have N : Hid (vrB s[k].toNat = true) := by rw [hnm.out, c1, c2, c3]; exact rfl
            go_wp2_with (first | (go_at_call 72; refine (lower_any _ _).mono ?_; rintro e w' ⟨rfl, rfl⟩) | (go_at_call 71; refine (upper_any _ _).mono ?_; rintro e w' ⟨rfl, rfl⟩) | (go_at_call 73; refine (digit_any _ _).mono ?_; rintro e w' ⟨rfl, rfl⟩))
            go_round
            case rel => exact ⟨k + 1, by omega, by go_num, by rw [hsn.out]; exact N⟩
            case measure => simp [intOf]; omega
        · have N : Hid (vrB s[k].toNat = true) := by rw [hnm.out, c1, c2]; exact rfl
          go_wp2_with (first | (go_at_call 72; refine (lower_any _ _).mono ?_; rintro e w' ⟨rfl, rfl⟩) | (go_at_call 71; refine (upper_any _ _).mono ?_; rintro e w' ⟨rfl, rfl⟩) | (go_at_call 73; refine (digit_any _ _).mono ?_; rintro e w' ⟨rfl, rfl⟩))
          go_round
          case rel => exact ⟨k + 1, by omega, by go_num, by rw [hsn.out]; exact N⟩
          case measure => simp [intOf]; omega
      · have N : Hid (vrB s[k].toNat = true) := by rw [hnm.out, c1]; exact rfl
        go_wp2_with (first | (go_at_call 72; refine (lower_any _ _).mono ?_; rintro e w' ⟨rfl, rfl⟩) | (go_at_call 71; refine (upper_any _ _).mono ?_; rintro e w' ⟨rfl, rfl⟩) | (go_at_call 73; refine (digit_any _ _).mono ?_; rintro e w' ⟨rfl, rfl⟩))
        go_round
        case rel => exact ⟨k + 1, by omega, by go_num, by rw [hsn.out]; exact N⟩
        case measure => simp [intOf]; omega
    · have hx := allB_all vrB s k (by omega)
      rw [hA.out] at hx
      have HX := Lib.hid hx.symm
      clear hx
      go_wp2_with (first | (go_at_call 72; refine (lower_any _ _).mono ?_; rintro e w' ⟨rfl, rfl⟩) | (go_at_call 71; refine (upper_any _ _).mono ?_; rintro e w' ⟨rfl, rfl⟩) | (go_at_call 73; refine (digit_any _ _).mono ?_; rintro e w' ⟨rfl, rfl⟩))
      go_ret
      exact ⟨ret_bool (by rw [H.out, HX.out]), rfl⟩
set_option maxHeartbeats 1600000 in
theorem rvar_any (s : ByteArray) (w : World) (hs : s.size ≤ 9223372036854775807) :
    Calls Tryz.prog 38 #[.string s] w fun e w' => e = .returned (.bool (varL s.data.toList)) ∧ w = w' := by
  by_cases h0 : s.size < 1
  · have H : Hid (varL s.data.toList = false) := by
      have : s.data.toList = [] := by apply List.eq_nil_of_length_eq_zero; rw [len_eq]; omega
      rw [this]; exact rfl
    go_enter Tryz.func38, Tryz.ntmps38
    go_wp2_with (first | (go_at_call 69; refine (rlower_any _ _).mono ?_; rintro e w' ⟨rfl, rfl⟩) | (go_at_call 68; refine (rupper_any _ _).mono ?_; rintro e w' ⟨rfl, rfl⟩) | (go_at_call 70; refine (rdigit_any _ _).mono ?_; rintro e w' ⟨rfl, rfl⟩))
    go_ret
    exact ⟨ret_bool H.out.symm, rfl⟩
  by_cases h1 : 16 < s.size
  · have H : Hid (varL s.data.toList = false) := by
      unfold varL; rw [decide_eq_false (by rw [len_eq]; omega)]; exact rfl
    go_enter Tryz.func38, Tryz.ntmps38
    go_wp2_with (first | (go_at_call 69; refine (rlower_any _ _).mono ?_; rintro e w' ⟨rfl, rfl⟩) | (go_at_call 68; refine (rupper_any _ _).mono ?_; rintro e w' ⟨rfl, rfl⟩) | (go_at_call 70; refine (rdigit_any _ _).mono ?_; rintro e w' ⟨rfl, rfl⟩))
    go_ret
    exact ⟨ret_bool H.out.symm, rfl⟩
  have hp : 0 < s.size := by omega
  have hh := headB_eq upB s hp
  have hlen : decide (s.data.toList.length ≤ 16) = true := decide_eq_true (by rw [len_eq]; omega)
  cases h2 : upB s[0].toNat
  · have H : Hid (varL s.data.toList = false) := by
      unfold varL; rw [hh, h2, Bool.and_false]; exact rfl
    clear hh hlen
    go_enter Tryz.func38, Tryz.ntmps38
    go_wp2_with (first | (go_at_call 69; refine (rlower_any _ _).mono ?_; rintro e w' ⟨rfl, rfl⟩) | (go_at_call 68; refine (rupper_any _ _).mono ?_; rintro e w' ⟨rfl, rfl⟩) | (go_at_call 70; refine (rdigit_any _ _).mono ?_; rintro e w' ⟨rfl, rfl⟩))
    go_ret
    exact ⟨ret_bool H.out.symm, rfl⟩
  have H : Hid (varL s.data.toList = allB vrB s.data.toList) := by
    unfold varL; rw [hh, h2, hlen]; exact rfl
  clear hh hlen
  go_enter Tryz.func38, Tryz.ntmps38
  go_wp2_with (first | (go_at_call 69; refine (rlower_any _ _).mono ?_; rintro e w' ⟨rfl, rfl⟩) | (go_at_call 68; refine (rupper_any _ _).mono ?_; rintro e w' ⟨rfl, rfl⟩) | (go_at_call 70; refine (rdigit_any _ _).mono ?_; rintro e w' ⟨rfl, rfl⟩))
  go_loop [20] (fun i => ∃ k : Nat, k ≤ s.size ∧ i = .int .i64 k ∧ Hid (allB vrB (s.data.toList.take k) = true)) (fun i => s.size - (intOf i).toNat)
  case atStart => exact ⟨0, Nat.zero_le _, rfl, Lib.hid rfl⟩
  case round =>
    obtain ⟨k, hk, rfl, hA⟩ := hrel
    by_cases hlt : k < s.size
    · have hsn : Hid (allB vrB (s.data.toList.take (k + 1)) = vrB s[k].toNat) := by
        rw [take_snoc s k hlt, allB_snoc, hA.out]; exact rfl
      have hno := Lib.hid (allB_no vrB s k hlt)
      have hnm : Hid (vrB s[k].toNat = (loB s[k].toNat || upB s[k].toNat || dgB s[k].toNat)) := rfl
      clear h2
      cases c1 : loB s[k].toNat
      · cases c2 : upB s[k].toNat
        · cases c3 : dgB s[k].toNat
          · have N : Hid (vrB s[k].toNat = false) := by rw [hnm.out, c1, c2, c3]; exact rfl
            go_wp2_with (first | (go_at_call 69; refine (rlower_any _ _).mono ?_; rintro e w' ⟨rfl, rfl⟩) | (go_at_call 68; refine (rupper_any _ _).mono ?_; rintro e w' ⟨rfl, rfl⟩) | (go_at_call 70; refine (rdigit_any _ _).mono ?_; rintro e w' ⟨rfl, rfl⟩))
            go_ret
            exact ⟨ret_bool (by rw [H.out, hno.out N.out]), rfl⟩
          · have N : Hid (vrB s[k].toNat = true) := by rw [hnm.out, c1, c2, c3]; exact rfl
            go_wp2_with (first | (go_at_call 69; refine (rlower_any _ _).mono ?_; rintro e w' ⟨rfl, rfl⟩) | (go_at_call 68; refine (rupper_any _ _).mono ?_; rintro e w' ⟨rfl, rfl⟩) | (go_at_call 70; refine (rdigit_any _ _).mono ?_; rintro e w' ⟨rfl, rfl⟩))
            go_round
            case rel => exact ⟨k + 1, by omega, by go_num, by rw [hsn.out]; exact N⟩
            case measure => simp [intOf]; omega
        · have N : Hid (vrB s[k].toNat = true) := by rw [hnm.out, c1, c2]; exact rfl
          go_wp2_with (first | (go_at_call 69; refine (rlower_any _ _).mono ?_; rintro e w' ⟨rfl, rfl⟩) | (go_at_call 68; refine (rupper_any _ _).mono ?_; rintro e w' ⟨rfl, rfl⟩) | (go_at_call 70; refine (rdigit_any _ _).mono ?_; rintro e w' ⟨rfl, rfl⟩))
          go_round
          case rel => exact ⟨k + 1, by omega, by go_num, by rw [hsn.out]; exact N⟩
          case measure => simp [intOf]; omega
      · have N : Hid (vrB s[k].toNat = true) := by rw [hnm.out, c1]; exact rfl
        go_wp2_with (first | (go_at_call 69; refine (rlower_any _ _).mono ?_; rintro e w' ⟨rfl, rfl⟩) | (go_at_call 68; refine (rupper_any _ _).mono ?_; rintro e w' ⟨rfl, rfl⟩) | (go_at_call 70; refine (rdigit_any _ _).mono ?_; rintro e w' ⟨rfl, rfl⟩))
        go_round
        case rel => exact ⟨k + 1, by omega, by go_num, by rw [hsn.out]; exact N⟩
        case measure => simp [intOf]; omega
    · have hx := allB_all vrB s k (by omega)
      rw [hA.out] at hx
      have HX := Lib.hid hx.symm
      clear hx
      go_wp2_with (first | (go_at_call 69; refine (rlower_any _ _).mono ?_; rintro e w' ⟨rfl, rfl⟩) | (go_at_call 68; refine (rupper_any _ _).mono ?_; rintro e w' ⟨rfl, rfl⟩) | (go_at_call 70; refine (rdigit_any _ _).mono ?_; rintro e w' ⟨rfl, rfl⟩))
      go_ret
      exact ⟨ret_bool (by rw [H.out, HX.out]), rfl⟩
end TermC
end Go.Proofs.YtaenalpckloikaaGreatDoor
/- The contracts of Number, of the code and of the reference. Condition: the string's length. -/
namespace Go.Proofs.YtaenalpckloikaaGreatDoor
open Go Go.RowKit
namespace TermD
open Kit LexM TermA
set_option maxHeartbeats 3200000 in
theorem num_any (s : ByteArray) (w : World) (hs : s.size ≤ 9223372036854775807) :
    Calls Tryz.prog 128 #[.string s] w fun e w' => e = .returned (.tuple #[.int .i64 (numV s.data.toList), .bool (isNum s.data.toList)]) ∧ w = w' := by
  have E := Lib.hid (ByteArray.toList_eq s)
  have FAIL : Hid (isNum s.data.toList = false → Value.tuple #[.int .i64 0, .bool false] = Value.tuple #[.int .i64 (numV s.data.toList), .bool (isNum s.data.toList)]) := by
    intro h; unfold numV; rw [h]; rfl
  have hl := Lib.hid (len_eq s)
  by_cases h0 : s.size < 1
  · have hz : s.data.toList = [] := by apply List.eq_nil_of_length_eq_zero; rw [len_eq]; omega
    have H : Hid (isNum s.data.toList = false) := by rw [hz]; exact rfl
    have q2 : s.toList = [] := by rw [E.out, hz]
    clear hz
    go_enter Tryz.func128, Tryz.ntmps128
    go_wp2_with (first | (go_at_call 73; refine (digit_any _ _).mono ?_; rintro e w' ⟨rfl, rfl⟩))
    go_ret2
    exact ⟨congrArg Ending.returned (FAIL.out H.out), rfl⟩
  have hnn : s.toList ≠ [] := by
    rw [E.out]; intro hx; have := hl.out; rw [hx] at this; simp at this; omega
  have q1 : (s.toList == []) = false := by simpa using hnn
  have q2 : s.toList.isEmpty = false := by simpa using hnn
  have hp : 0 < s.size := by omega
  have hh := headB_eq (fun n => n == 48) s hp
  cases h2 : lead s.data.toList
  case true =>
    have H : Hid (isNum s.data.toList = false) := by
      unfold isNum; rw [h2, Bool.not_true, Bool.and_false]; exact rfl
    have g1 : 1 < s.size ∧ ((s[0].toNat : Int) == 48) = true := by
      unfold lead at h2; rw [hh, len_eq] at h2; simpa using h2
    obtain ⟨g1, g2⟩ := g1
    clear hh h2
    go_enter Tryz.func128, Tryz.ntmps128
    go_wp2_with (first | (go_at_call 73; refine (digit_any _ _).mono ?_; rintro e w' ⟨rfl, rfl⟩))
    go_ret2
    exact ⟨congrArg Ending.returned (FAIL.out H.out), rfl⟩
  have g : s.size ≤ 1 ∨ ((s[0].toNat : Int) == 48) = false := by
    by_cases c : s.size ≤ 1
    · exact Or.inl c
    · right
      unfold lead at h2; rw [hh, len_eq, decide_eq_true (by omega)] at h2; simpa using h2
  have H4 := Lib.hid h2
  have HG : Hid (1 < s.size → (s[0].toNat : Int) ≠ 48) := by
    intro h; rcases g with g | g
    · omega
    · simpa using g
  clear hh h2
  have ISN : Hid (s.size ≤ 4 → allB dgB s.data.toList = true → isNum s.data.toList = true) := by
    intro a b; unfold isNum; rw [b, H4.out, decide_eq_true (by rw [len_eq]; omega), decide_eq_true (by rw [len_eq]; omega)]; rfl
  have NOTN : Hid (4 < s.size ∨ allB dgB s.data.toList = false → isNum s.data.toList = false) := by
    intro a; unfold isNum; rcases a with a | a
    · rw [decide_eq_false (p := s.data.toList.length ≤ 4) (by rw [len_eq]; omega)]; simp
    · rw [a, Bool.and_false]
  have three : (((s[0].toNat : Int) == 48) = false ∧ 1 < s.size) ∨ (((s[0].toNat : Int) == 48) = false ∧ s.size ≤ 1) ∨ (((s[0].toNat : Int) == 48) = true ∧ s.size ≤ 1) := by
    rcases g with g | g
    · cases c : ((s[0].toNat : Int) == 48)
      · exact Or.inr (Or.inl ⟨rfl, g⟩)
      · exact Or.inr (Or.inr ⟨rfl, g⟩)
    · by_cases c : s.size ≤ 1
      · exact Or.inr (Or.inl ⟨g, c⟩)
      · exact Or.inl ⟨g, by omega⟩
  clear g
  rcases three with ⟨g1, g2⟩ | ⟨g1, g2⟩ | ⟨g1, g2⟩
  all_goals
    go_enter Tryz.func128, Tryz.ntmps128
    go_wp2_with (first | (go_at_call 73; refine (digit_any _ _).mono ?_; rintro e w' ⟨rfl, rfl⟩))
    clear g1
    go_loop [4, 20] (fun t i => ∃ (k : Nat) (n : Int), k ≤ s.size ∧ k ≤ 4 ∧ 0 ≤ n ∧ n ≤ 9999 ∧ Hid ((k = 0 → n = 0) ∧ (k = 1 → n ≤ 9) ∧ (k = 2 → n ≤ 99) ∧ (k = 3 → n ≤ 999)) ∧ Hid (1 < s.size → (k = 1 → 1 ≤ n) ∧ (k = 2 → 10 ≤ n) ∧ (k = 3 → 100 ≤ n) ∧ (k = 4 → 1000 ≤ n)) ∧ i = .int .i64 k ∧ t = .int .i64 n ∧ Hid (n = valL (s.data.toList.take k)) ∧ Hid (allB dgB (s.data.toList.take k) = true)) (fun _ i => s.size - (intOf i).toNat)
    case atStart => exact ⟨0, 0, Nat.zero_le _, by omega, by omega, by omega, Lib.hid ⟨by omega, by omega, by omega, by omega⟩, Lib.hid (fun _ => ⟨by omega, by omega, by omega, by omega⟩), rfl, rfl, Lib.hid rfl, Lib.hid rfl⟩
    case round =>
      obtain ⟨k, n, hk, hk4, hn0, hn1, U, HL, rfl, rfl, hV, hA⟩ := hrel
      by_cases hlt : k < s.size
      · have hsn : Hid (allB dgB (s.data.toList.take (k + 1)) = dgB s[k].toNat) := by
          rw [take_snoc s k hlt, allB_snoc, hA.out]; exact rfl
        have hvn : Hid (valL (s.data.toList.take (k + 1)) = 10 * n + ((s[k].toNat : Int) - 48)) := by
          rw [take_snoc s k hlt, valL_snoc, ← hV.out]; exact rfl
        have hno := Lib.hid (allB_no dgB s k hlt)
        have hz : Hid (k = 0 → 1 < s.size → (s[k].toNat : Int) ≠ 48) := by
          intro h; subst h; exact HG.out
        cases c1 : dgB s[k].toNat
        · have N : Hid (isNum s.data.toList = false) := NOTN.out (Or.inr (hno.out c1))
          go_wp2_with (first | (go_at_call 73; refine (digit_any _ _).mono ?_; rintro e w' ⟨rfl, rfl⟩))
          go_ret2
          exact ⟨congrArg Ending.returned (FAIL.out N.out), rfl⟩
        · have hd : 48 ≤ (s[k].toNat : Int) ∧ (s[k].toNat : Int) ≤ 57 := by simpa [dgB] using c1
          have hd1 := hd.1
          have hd2 := hd.2
          clear hd
          by_cases big : k = 4
          · have h1 : 1000 ≤ n := (HL.out (by omega)).2.2.2 big
            have N : Hid (isNum s.data.toList = false) := NOTN.out (Or.inl (by omega))
            clear big
            go_wp2_with (first | (go_at_call 73; refine (digit_any _ _).mono ?_; rintro e w' ⟨rfl, rfl⟩))
            go_ret2
            exact ⟨congrArg Ending.returned (FAIL.out N.out), rfl⟩
          · have up : 10 * n + ((s[k].toNat : Int) - 48) ≤ 9999 ∧ Hid ((k + 1 = 0 → 10 * n + ((s[k].toNat : Int) - 48) = 0) ∧ (k + 1 = 1 → 10 * n + ((s[k].toNat : Int) - 48) ≤ 9) ∧ (k + 1 = 2 → 10 * n + ((s[k].toNat : Int) - 48) ≤ 99) ∧ (k + 1 = 3 → 10 * n + ((s[k].toNat : Int) - 48) ≤ 999)) := by
              unfold Hid
              obtain ⟨a, b, c, d⟩ := U.out
              rcases (by omega : k = 0 ∨ k = 1 ∨ k = 2 ∨ k = 3) with rfl | rfl | rfl | rfl
              · have := a rfl; omega
              · have := b rfl; omega
              · have := c rfl; omega
              · have := d rfl; omega
            have dn : Hid (1 < s.size → (k + 1 = 1 → 1 ≤ 10 * n + ((s[k].toNat : Int) - 48)) ∧ (k + 1 = 2 → 10 ≤ 10 * n + ((s[k].toNat : Int) - 48)) ∧ (k + 1 = 3 → 100 ≤ 10 * n + ((s[k].toNat : Int) - 48)) ∧ (k + 1 = 4 → 1000 ≤ 10 * n + ((s[k].toNat : Int) - 48))) := by
              intro h
              obtain ⟨a, b, c, d⟩ := HL.out h
              rcases (by omega : k = 0 ∨ k = 1 ∨ k = 2 ∨ k = 3) with rfl | rfl | rfl | rfl
              · have := hz.out rfl h; omega
              · have := a rfl; omega
              · have := b rfl; omega
              · have := c rfl; omega
            obtain ⟨up0, UP⟩ := up
            have k3 : k + 1 ≤ 4 := by omega
            clear big
            go_wp2_with (first | (go_at_call 73; refine (digit_any _ _).mono ?_; rintro e w' ⟨rfl, rfl⟩))
            go_round
            case rel => exact ⟨k + 1, 10 * n + ((s[k].toNat : Int) - 48), by omega, k3, by omega, up0, UP, dn, by go_num, by first | rfl | go_num, hvn.out.symm, by rw [hsn.out]; exact c1⟩
            case measure => simp [intOf]; omega
      · have hx := allB_all dgB s k (by omega)
        rw [hA.out] at hx
        have N : Hid (isNum s.data.toList = true) := ISN.out (by omega) hx.symm
        have NV : Hid (numV s.data.toList = n) := by
          unfold numV; rw [if_pos N.out, hV.out, List.take_of_length_le (by rw [len_eq]; omega)]; exact rfl
        clear hx
        go_wp2_with (first | (go_at_call 73; refine (digit_any _ _).mono ?_; rintro e w' ⟨rfl, rfl⟩))
        go_ret2
        have V : Value.tuple #[.int .i64 n, .bool true] = Value.tuple #[.int .i64 (numV s.data.toList), .bool (isNum s.data.toList)] := by rw [N.out, NV.out]
        exact ⟨congrArg Ending.returned V, rfl⟩
set_option maxHeartbeats 3200000 in
theorem rnum_any (s : ByteArray) (w : World) (hs : s.size ≤ 9223372036854775807) :
    Calls Tryz.prog 146 #[.string s] w fun e w' => e = .returned (.tuple #[.int .i64 (numV s.data.toList), .bool (isNum s.data.toList)]) ∧ w = w' := by
  have E := Lib.hid (ByteArray.toList_eq s)
  have FAIL : Hid (isNum s.data.toList = false → Value.tuple #[.int .i64 0, .bool false] = Value.tuple #[.int .i64 (numV s.data.toList), .bool (isNum s.data.toList)]) := by
    intro h; unfold numV; rw [h]; rfl
  have hl := Lib.hid (len_eq s)
  by_cases h0 : s.size < 1
  · have hz : s.data.toList = [] := by apply List.eq_nil_of_length_eq_zero; rw [len_eq]; omega
    have H : Hid (isNum s.data.toList = false) := by rw [hz]; exact rfl
    have q2 : s.toList = [] := by rw [E.out, hz]
    clear hz
    go_enter Tryz.func146, Tryz.ntmps146
    go_wp2_with (first | (go_at_call 70; refine (rdigit_any _ _).mono ?_; rintro e w' ⟨rfl, rfl⟩))
    go_ret2
    exact ⟨congrArg Ending.returned (FAIL.out H.out), rfl⟩
  have hnn : s.toList ≠ [] := by
    rw [E.out]; intro hx; have := hl.out; rw [hx] at this; simp at this; omega
  have q1 : (s.toList == []) = false := by simpa using hnn
  have q2 : s.toList.isEmpty = false := by simpa using hnn
  have hp : 0 < s.size := by omega
  by_cases h4 : 4 < s.size
  · have H : Hid (isNum s.data.toList = false) := Lib.hid (by
      unfold isNum; rw [decide_eq_false (p := s.data.toList.length ≤ 4) (by rw [len_eq]; omega)]; simp)
    go_enter Tryz.func146, Tryz.ntmps146
    go_wp2_with (first | (go_at_call 70; refine (rdigit_any _ _).mono ?_; rintro e w' ⟨rfl, rfl⟩))
    go_ret2
    exact ⟨congrArg Ending.returned (FAIL.out H.out), rfl⟩
  have hh := headB_eq (fun n => n == 48) s hp
  cases h2 : lead s.data.toList
  case true =>
    have H : Hid (isNum s.data.toList = false) := by
      unfold isNum; rw [h2, Bool.not_true, Bool.and_false]; exact rfl
    have g1 : 1 < s.size ∧ ((s[0].toNat : Int) == 48) = true := by
      unfold lead at h2; rw [hh, len_eq] at h2; simpa using h2
    obtain ⟨g1, g2⟩ := g1
    clear hh h2
    go_enter Tryz.func146, Tryz.ntmps146
    go_wp2_with (first | (go_at_call 70; refine (rdigit_any _ _).mono ?_; rintro e w' ⟨rfl, rfl⟩))
    go_ret2
    exact ⟨congrArg Ending.returned (FAIL.out H.out), rfl⟩
  have g : s.size ≤ 1 ∨ ((s[0].toNat : Int) == 48) = false := by
    by_cases c : s.size ≤ 1
    · exact Or.inl c
    · right
      unfold lead at h2; rw [hh, len_eq, decide_eq_true (by omega)] at h2; simpa using h2
  have H4 := Lib.hid h2
  have HG : Hid (1 < s.size → (s[0].toNat : Int) ≠ 48) := by
    intro h; rcases g with g | g
    · omega
    · simpa using g
  clear hh h2
  have ISN : Hid (s.size ≤ 4 → allB dgB s.data.toList = true → isNum s.data.toList = true) := by
    intro a b; unfold isNum; rw [b, H4.out, decide_eq_true (by rw [len_eq]; omega), decide_eq_true (by rw [len_eq]; omega)]; rfl
  have NOTN : Hid (4 < s.size ∨ allB dgB s.data.toList = false → isNum s.data.toList = false) := by
    intro a; unfold isNum; rcases a with a | a
    · rw [decide_eq_false (p := s.data.toList.length ≤ 4) (by rw [len_eq]; omega)]; simp
    · rw [a, Bool.and_false]
  have three : (((s[0].toNat : Int) == 48) = false ∧ 1 < s.size) ∨ (((s[0].toNat : Int) == 48) = false ∧ s.size ≤ 1) ∨ (((s[0].toNat : Int) == 48) = true ∧ s.size ≤ 1) := by
    rcases g with g | g
    · cases c : ((s[0].toNat : Int) == 48)
      · exact Or.inr (Or.inl ⟨rfl, g⟩)
      · exact Or.inr (Or.inr ⟨rfl, g⟩)
    · by_cases c : s.size ≤ 1
      · exact Or.inr (Or.inl ⟨g, c⟩)
      · exact Or.inl ⟨g, by omega⟩
  clear g
  rcases three with ⟨g1, g2⟩ | ⟨g1, g2⟩ | ⟨g1, g2⟩
  all_goals
    go_enter Tryz.func146, Tryz.ntmps146
    go_wp2_with (first | (go_at_call 70; refine (rdigit_any _ _).mono ?_; rintro e w' ⟨rfl, rfl⟩))
    clear g1
    go_loop [4, 26] (fun t i => ∃ (k : Nat) (n : Int), k ≤ s.size ∧ k ≤ 4 ∧ 0 ≤ n ∧ n ≤ 9999 ∧ Hid ((k = 0 → n = 0) ∧ (k = 1 → n ≤ 9) ∧ (k = 2 → n ≤ 99) ∧ (k = 3 → n ≤ 999)) ∧ Hid (1 < s.size → (k = 1 → 1 ≤ n) ∧ (k = 2 → 10 ≤ n) ∧ (k = 3 → 100 ≤ n) ∧ (k = 4 → 1000 ≤ n)) ∧ i = .int .i64 k ∧ t = .int .i64 n ∧ Hid (n = valL (s.data.toList.take k)) ∧ Hid (allB dgB (s.data.toList.take k) = true)) (fun _ i => s.size - (intOf i).toNat)
    case atStart => exact ⟨0, 0, Nat.zero_le _, by omega, by omega, by omega, Lib.hid ⟨by omega, by omega, by omega, by omega⟩, Lib.hid (fun _ => ⟨by omega, by omega, by omega, by omega⟩), rfl, rfl, Lib.hid rfl, Lib.hid rfl⟩
    case round =>
      obtain ⟨k, n, hk, hk4, hn0, hn1, U, HL, rfl, rfl, hV, hA⟩ := hrel
      by_cases hlt : k < s.size
      · have hsn : Hid (allB dgB (s.data.toList.take (k + 1)) = dgB s[k].toNat) := by
          rw [take_snoc s k hlt, allB_snoc, hA.out]; exact rfl
        have hvn : Hid (valL (s.data.toList.take (k + 1)) = 10 * n + ((s[k].toNat : Int) - 48)) := by
          rw [take_snoc s k hlt, valL_snoc, ← hV.out]; exact rfl
        have hno := Lib.hid (allB_no dgB s k hlt)
        have hz : Hid (k = 0 → 1 < s.size → (s[k].toNat : Int) ≠ 48) := by
          intro h; subst h; exact HG.out
        cases c1 : dgB s[k].toNat
        · have N : Hid (isNum s.data.toList = false) := NOTN.out (Or.inr (hno.out c1))
          go_wp2_with (first | (go_at_call 70; refine (rdigit_any _ _).mono ?_; rintro e w' ⟨rfl, rfl⟩))
          go_ret2
          exact ⟨congrArg Ending.returned (FAIL.out N.out), rfl⟩
        · have hd : 48 ≤ (s[k].toNat : Int) ∧ (s[k].toNat : Int) ≤ 57 := by simpa [dgB] using c1
          have hd1 := hd.1
          have hd2 := hd.2
          clear hd
          by_cases big : k = 4
          · omega
          · have up : 10 * n + ((s[k].toNat : Int) - 48) ≤ 9999 ∧ Hid ((k + 1 = 0 → 10 * n + ((s[k].toNat : Int) - 48) = 0) ∧ (k + 1 = 1 → 10 * n + ((s[k].toNat : Int) - 48) ≤ 9) ∧ (k + 1 = 2 → 10 * n + ((s[k].toNat : Int) - 48) ≤ 99) ∧ (k + 1 = 3 → 10 * n + ((s[k].toNat : Int) - 48) ≤ 999)) := by
              unfold Hid
              obtain ⟨a, b, c, d⟩ := U.out
              rcases (by omega : k = 0 ∨ k = 1 ∨ k = 2 ∨ k = 3) with rfl | rfl | rfl | rfl
              · have := a rfl; omega
              · have := b rfl; omega
              · have := c rfl; omega
              · have := d rfl; omega
            have dn : Hid (1 < s.size → (k + 1 = 1 → 1 ≤ 10 * n + ((s[k].toNat : Int) - 48)) ∧ (k + 1 = 2 → 10 ≤ 10 * n + ((s[k].toNat : Int) - 48)) ∧ (k + 1 = 3 → 100 ≤ 10 * n + ((s[k].toNat : Int) - 48)) ∧ (k + 1 = 4 → 1000 ≤ 10 * n + ((s[k].toNat : Int) - 48))) := by
              intro h
              obtain ⟨a, b, c, d⟩ := HL.out h
              rcases (by omega : k = 0 ∨ k = 1 ∨ k = 2 ∨ k = 3) with rfl | rfl | rfl | rfl
              · have := hz.out rfl h; omega
              · have := a rfl; omega
              · have := b rfl; omega
              · have := c rfl; omega
            obtain ⟨up0, UP⟩ := up
            have k3 : k + 1 ≤ 4 := by omega
            clear big
            go_wp2_with (first | (go_at_call 70; refine (rdigit_any _ _).mono ?_; rintro e w' ⟨rfl, rfl⟩))
            go_round
            case rel => exact ⟨k + 1, 10 * n + ((s[k].toNat : Int) - 48), by omega, k3, by omega, up0, UP, dn, by go_num, by first | rfl | go_num, hvn.out.symm, by rw [hsn.out]; exact c1⟩
            case measure => simp [intOf]; omega
      · have hx := allB_all dgB s k (by omega)
        rw [hA.out] at hx
        have N : Hid (isNum s.data.toList = true) := ISN.out (by omega) hx.symm
        have NV : Hid (numV s.data.toList = n) := by
          unfold numV; rw [if_pos N.out, hV.out, List.take_of_length_le (by rw [len_eq]; omega)]; exact rfl
        clear hx
        go_wp2_with (first | (go_at_call 70; refine (rdigit_any _ _).mono ?_; rintro e w' ⟨rfl, rfl⟩))
        go_ret2
        have V : Value.tuple #[.int .i64 n, .bool true] = Value.tuple #[.int .i64 (numV s.data.toList), .bool (isNum s.data.toList)] := by rw [N.out, NV.out]
        exact ⟨congrArg Ending.returned V, rfl⟩
end TermD
end Go.Proofs.YtaenalpckloikaaGreatDoor
