/- Texts laid together: LexC; LexD; LexE. Their own heads stand before each. -/
import Derived.Test.YtfdpelokiljigaaDoorPk1
/- The contracts of Variable and Number, of the code and of the reference. Condition: the string's length. -/
namespace Go.Proofs.YtfdpelokiljigaaDoor
open Go Go.RowKit
namespace LexC
open Kit LexM LexA
set_option maxHeartbeats 1600000 in
theorem var_any (s : ByteArray) (w : World) (hs : s.size ≤ 140737488355328) :
    Calls Tryd.prog 92 #[.string s] w fun e w' => e = .returned (.bool (varL s.data.toList)) ∧ w = w' := by
  by_cases h0 : s.size < 1
  · have H : Hid (varL s.data.toList = false) := by
      have : s.data.toList = [] := by apply List.eq_nil_of_length_eq_zero; rw [len_eq]; omega
      rw [this]; exact rfl
    go_enter Tryd.func92, Tryd.ntmps92
    go_wp2_with (first | (go_at_call 72; refine (lower_any _ _).mono ?_; rintro e w' ⟨rfl, rfl⟩) | (go_at_call 111; refine (upper_any _ _).mono ?_; rintro e w' ⟨rfl, rfl⟩) | (go_at_call 74; refine (digit_any _ _).mono ?_; rintro e w' ⟨rfl, rfl⟩))
    go_ret
    exact ⟨ret_bool H.out.symm, rfl⟩
  by_cases h1 : 16 < s.size
  · have H : Hid (varL s.data.toList = false) := by
      unfold varL; rw [decide_eq_false (by rw [len_eq]; omega)]; exact rfl
    go_enter Tryd.func92, Tryd.ntmps92
    go_wp2_with (first | (go_at_call 72; refine (lower_any _ _).mono ?_; rintro e w' ⟨rfl, rfl⟩) | (go_at_call 111; refine (upper_any _ _).mono ?_; rintro e w' ⟨rfl, rfl⟩) | (go_at_call 74; refine (digit_any _ _).mono ?_; rintro e w' ⟨rfl, rfl⟩))
    go_ret
    exact ⟨ret_bool H.out.symm, rfl⟩
  have hp : 0 < s.size := by omega
  have hh := headB_eq upB s hp
  have hlen : decide (s.data.toList.length ≤ 16) = true := decide_eq_true (by rw [len_eq]; omega)
  cases h2 : upB s[0].toNat
  · have H : Hid (varL s.data.toList = false) := by
      unfold varL; rw [hh, h2, Bool.and_false]; exact rfl
    clear hh hlen
    go_enter Tryd.func92, Tryd.ntmps92
    go_wp2_with (first | (go_at_call 72; refine (lower_any _ _).mono ?_; rintro e w' ⟨rfl, rfl⟩) | (go_at_call 111; refine (upper_any _ _).mono ?_; rintro e w' ⟨rfl, rfl⟩) | (go_at_call 74; refine (digit_any _ _).mono ?_; rintro e w' ⟨rfl, rfl⟩))
    go_ret
    exact ⟨ret_bool H.out.symm, rfl⟩
  have H : Hid (varL s.data.toList = allB vrB s.data.toList) := by
    unfold varL; rw [hh, h2, hlen]; exact rfl
  clear hh hlen
  go_enter Tryd.func92, Tryd.ntmps92
  go_wp2_with (first | (go_at_call 72; refine (lower_any _ _).mono ?_; rintro e w' ⟨rfl, rfl⟩) | (go_at_call 111; refine (upper_any _ _).mono ?_; rintro e w' ⟨rfl, rfl⟩) | (go_at_call 74; refine (digit_any _ _).mono ?_; rintro e w' ⟨rfl, rfl⟩))
  go_loop [20] (fun i => ∃ k : Nat, k ≤ s.size ∧ i = .int .i64 k ∧ Hid (allB vrB (s.data.toList.take k) = true)) (fun i => s.size - (intOf i).toNat)
  case atStart => exact ⟨0, Nat.zero_le _, rfl, Lib.hid rfl⟩
  case round =>
    obtain ⟨k, hk, rfl, hA⟩ := hrel
    by_cases hlt : k < s.size
    · have hsn : Hid (allB vrB (s.data.toList.take (k + 1)) = vrB s[k].toNat) := by
        rw [take_snoc s k hlt, allB_snoc, hA.out]; exact rfl
      have hno := Lib.hid (allB_no vrB s k hlt)
      have hnm : Hid (vrB s[k].toNat = (loB s[k].toNat || upB s[k].toNat || dgB s[k].toNat)) := rfl
      clear h2
      cases c1 : loB s[k].toNat
      · cases c2 : upB s[k].toNat
        · cases c3 : dgB s[k].toNat
          · have N : Hid (vrB s[k].toNat = false) := by rw [hnm.out, c1, c2, c3]; exact rfl
            go_wp2_with (first | (go_at_call 72; refine (lower_any _ _).mono ?_; rintro e w' ⟨rfl, rfl⟩) | (go_at_call 111; refine (upper_any _ _).mono ?_; rintro e w' ⟨rfl, rfl⟩) | (go_at_call 74; refine (digit_any _ _).mono ?_; rintro e w' ⟨rfl, rfl⟩))
            go_ret
            exact ⟨ret_bool (by rw [H.out, hno.out N.out]), rfl⟩
          · have N : Hid (vrB s[k].toNat = true) := by rw [hnm.out, c1, c2, c3]; exact rfl
            go_wp2_with (first | (go_at_call 72; refine (lower_any _ _).mono ?_; rintro e w' ⟨rfl, rfl⟩) | (go_at_call 111; refine (upper_any _ _).mono ?_; rintro e w' ⟨rfl, rfl⟩) | (go_at_call 74; refine (digit_any _ _).mono ?_; rintro e w' ⟨rfl, rfl⟩))
            go_round
            case rel => exact ⟨k + 1, by omega, by go_num, by rw [hsn.out]; exact N⟩
            case measure => simp [intOf]; omega
        · have N : Hid (vrB s[k].toNat = true) := by rw [hnm.out, c1, c2]; exact rfl
          go_wp2_with (first | (go_at_call 72; refine (lower_any _ _).mono ?_; rintro e w' ⟨rfl, rfl⟩) | (go_at_call 111; refine (upper_any _ _).mono ?_; rintro e w' ⟨rfl, rfl⟩) | (go_at_call 74; refine (digit_any _ _).mono ?_; rintro e w' ⟨rfl, rfl⟩))
          go_round
          case rel => exact ⟨k + 1, by omega, by go_num, by rw [hsn.out]; exact N⟩
          case measure => simp [intOf]; omega
      · have N : Hid (vrB s[k].toNat = true) := by rw [hnm.out, c1]; exact rfl
        go_wp2_with (first | (go_at_call 72; refine (lower_any _ _).mono ?_; rintro e w' ⟨rfl, rfl⟩) | (go_at_call 111; refine (upper_any _ _).mono ?_; rintro e w' ⟨rfl, rfl⟩) | (go_at_call 74; refine (digit_any _ _).mono ?_; rintro e w' ⟨rfl, rfl⟩))
        go_round
        case rel => exact ⟨k + 1, by omega, by go_num, by rw [hsn.out]; exact N⟩
        case measure => simp [intOf]; omega
    · have hx := allB_all vrB s k (by omega)
      rw [hA.out] at hx
      have HX := Lib.hid hx.symm
      clear hx
      go_wp2_with (first | (go_at_call 72; refine (lower_any _ _).mono ?_; rintro e w' ⟨rfl, rfl⟩) | (go_at_call 111; refine (upper_any _ _).mono ?_; rintro e w' ⟨rfl, rfl⟩) | (go_at_call 74; refine (digit_any _ _).mono ?_; rintro e w' ⟨rfl, rfl⟩))
      go_ret
      exact ⟨ret_bool (by rw [H.out, HX.out]), rfl⟩
set_option maxHeartbeats 1600000 in
theorem rvar_any (s : ByteArray) (w : World) (hs : s.size ≤ 140737488355328) :
    Calls Tryd.prog 113 #[.string s] w fun e w' => e = .returned (.bool (varL s.data.toList)) ∧ w = w' := by
  by_cases h0 : s.size < 1
  · have H : Hid (varL s.data.toList = false) := by
      have : s.data.toList = [] := by apply List.eq_nil_of_length_eq_zero; rw [len_eq]; omega
      rw [this]; exact rfl
    go_enter Tryd.func113, Tryd.ntmps113
    go_wp2_with (first | (go_at_call 77; refine (rlower_any _ _).mono ?_; rintro e w' ⟨rfl, rfl⟩) | (go_at_call 119; refine (rupper_any _ _).mono ?_; rintro e w' ⟨rfl, rfl⟩) | (go_at_call 78; refine (rdigit_any _ _).mono ?_; rintro e w' ⟨rfl, rfl⟩))
    go_ret
    exact ⟨ret_bool H.out.symm, rfl⟩
  by_cases h1 : 16 < s.size
  · have H : Hid (varL s.data.toList = false) := by
      unfold varL; rw [decide_eq_false (by rw [len_eq]; omega)]; exact rfl
    go_enter Tryd.func113, Tryd.ntmps113
    go_wp2_with (first | (go_at_call 77; refine (rlower_any _ _).mono ?_; rintro e w' ⟨rfl, rfl⟩) | (go_at_call 119; refine (rupper_any _ _).mono ?_; rintro e w' ⟨rfl, rfl⟩) | (go_at_call 78; refine (rdigit_any _ _).mono ?_; rintro e w' ⟨rfl, rfl⟩))
    go_ret
    exact ⟨ret_bool H.out.symm, rfl⟩
  have hp : 0 < s.size := by omega
  have hh := headB_eq upB s hp
  have hlen : decide (s.data.toList.length ≤ 16) = true := decide_eq_true (by rw [len_eq]; omega)
  cases h2 : upB s[0].toNat
  · have H : Hid (varL s.data.toList = false) := by
      unfold varL; rw [hh, h2, Bool.and_false]; exact rfl
    clear hh hlen
    go_enter Tryd.func113, Tryd.ntmps113
    go_wp2_with (first | (go_at_call 77; refine (rlower_any _ _).mono ?_; rintro e w' ⟨rfl, rfl⟩) | (go_at_call 119; refine (rupper_any _ _).mono ?_; rintro e w' ⟨rfl, rfl⟩) | (go_at_call 78; refine (rdigit_any _ _).mono ?_; rintro e w' ⟨rfl, rfl⟩))
    go_ret
    exact ⟨ret_bool H.out.symm, rfl⟩
  have H : Hid (varL s.data.toList = allB vrB s.data.toList) := by
    unfold varL; rw [hh, h2, hlen]; exact rfl
  clear hh hlen
  go_enter Tryd.func113, Tryd.ntmps113
  go_wp2_with (first | (go_at_call 77; refine (rlower_any _ _).mono ?_; rintro e w' ⟨rfl, rfl⟩) | (go_at_call 119; refine (rupper_any _ _).mono ?_; rintro e w' ⟨rfl, rfl⟩) | (go_at_call 78; refine (rdigit_any _ _).mono ?_; rintro e w' ⟨rfl, rfl⟩))
  go_loop [20] (fun i => ∃ k : Nat, k ≤ s.size ∧ i = .int .i64 k ∧ Hid (allB vrB (s.data.toList.take k) = true)) (fun i => s.size - (intOf i).toNat)
  case atStart => exact ⟨0, Nat.zero_le _, rfl, Lib.hid rfl⟩
  case round =>
    obtain ⟨k, hk, rfl, hA⟩ := hrel
    by_cases hlt : k < s.size
    · have hsn : Hid (allB vrB (s.data.toList.take (k + 1)) = vrB s[k].toNat) := by
        rw [take_snoc s k hlt, allB_snoc, hA.out]; exact rfl
      have hno := Lib.hid (allB_no vrB s k hlt)
      have hnm : Hid (vrB s[k].toNat = (loB s[k].toNat || upB s[k].toNat || dgB s[k].toNat)) := rfl
      clear h2
      cases c1 : loB s[k].toNat
      · cases c2 : upB s[k].toNat
        · cases c3 : dgB s[k].toNat
          · have N : Hid (vrB s[k].toNat = false) := by rw [hnm.out, c1, c2, c3]; exact rfl
            go_wp2_with (first | (go_at_call 77; refine (rlower_any _ _).mono ?_; rintro e w' ⟨rfl, rfl⟩) | (go_at_call 119; refine (rupper_any _ _).mono ?_; rintro e w' ⟨rfl, rfl⟩) | (go_at_call 78; refine (rdigit_any _ _).mono ?_; rintro e w' ⟨rfl, rfl⟩))
            go_ret
            exact ⟨ret_bool (by rw [H.out, hno.out N.out]), rfl⟩
          · have N : Hid (vrB s[k].toNat = true) := by rw [hnm.out, c1, c2, c3]; exact rfl
            go_wp2_with (first | (go_at_call 77; refine (rlower_any _ _).mono ?_; rintro e w' ⟨rfl, rfl⟩) | (go_at_call 119; refine (rupper_any _ _).mono ?_; rintro e w' ⟨rfl, rfl⟩) | (go_at_call 78; refine (rdigit_any _ _).mono ?_; rintro e w' ⟨rfl, rfl⟩))
            go_round
            case rel => exact ⟨k + 1, by omega, by go_num, by rw [hsn.out]; exact N⟩
            case measure => simp [intOf]; omega
        · have N : Hid (vrB s[k].toNat = true) := by rw [hnm.out, c1, c2]; exact rfl
          go_wp2_with (first | (go_at_call 77; refine (rlower_any _ _).mono ?_; rintro e w' ⟨rfl, rfl⟩) | (go_at_call 119; refine (rupper_any _ _).mono ?_; rintro e w' ⟨rfl, rfl⟩) | (go_at_call 78; refine (rdigit_any _ _).mono ?_; rintro e w' ⟨rfl, rfl⟩))
          go_round
          case rel => exact ⟨k + 1, by omega, by go_num, by rw [hsn.out]; exact N⟩
          case measure => simp [intOf]; omega
      · have N : Hid (vrB s[k].toNat = true) := by rw [hnm.out, c1]; exact rfl
        go_wp2_with (first | (go_at_call 77; refine (rlower_any _ _).mono ?_; rintro e w' ⟨rfl, rfl⟩) | (go_at_call 119; refine (rupper_any _ _).mono ?_; rintro e w' ⟨rfl, rfl⟩) | (go_at_call 78; refine (rdigit_any _ _).mono ?_; rintro e w' ⟨rfl, rfl⟩))
        go_round
        case rel => exact ⟨k + 1, by omega, by go_num, by rw [hsn.out]; exact N⟩
        case measure => simp [intOf]; omega
    · have hx := allB_all vrB s k (by omega)
      rw [hA.out] at hx
      have HX := Lib.hid hx.symm
      clear hx
      go_wp2_with (first | (go_at_call 77; refine (rlower_any _ _).mono ?_; rintro e w' ⟨rfl, rfl⟩) | (go_at_call 119; refine (rupper_any _ _).mono ?_; rintro e w' ⟨rfl, rfl⟩) | (go_at_call 78; refine (rdigit_any _ _).mono ?_; rintro e w' ⟨rfl, rfl⟩))
      go_ret
      exact ⟨ret_bool (by rw [H.out, HX.out]), rfl⟩
end LexC
end Go.Proofs.YtfdpelokiljigaaDoor
/- The contracts of Number, of the code and of the reference. Condition: the string's length. -/
namespace Go.Proofs.YtfdpelokiljigaaDoor
open Go Go.RowKit
namespace LexD
open Kit LexM LexA
set_option maxHeartbeats 3200000 in
theorem num_any (s : ByteArray) (w : World) (hs : s.size ≤ 140737488355328) :
    Calls Tryd.prog 110 #[.string s] w fun e w' => e = .returned (.tuple #[.int .i64 (numV s.data.toList), .bool (isNum s.data.toList)]) ∧ w = w' := by
  have E := Lib.hid (ByteArray.toList_eq s)
  have FAIL : Hid (isNum s.data.toList = false → Value.tuple #[.int .i64 0, .bool false] = Value.tuple #[.int .i64 (numV s.data.toList), .bool (isNum s.data.toList)]) := by
    intro h; unfold numV; rw [h]; rfl
  have hl := Lib.hid (len_eq s)
  by_cases h0 : s.size < 1
  · have hz : s.data.toList = [] := by apply List.eq_nil_of_length_eq_zero; rw [len_eq]; omega
    have H : Hid (isNum s.data.toList = false) := by rw [hz]; exact rfl
    have q2 : s.toList = [] := by rw [E.out, hz]
    clear hz
    go_enter Tryd.func110, Tryd.ntmps110
    go_wp2_with (first | (go_at_call 74; refine (digit_any _ _).mono ?_; rintro e w' ⟨rfl, rfl⟩))
    go_ret2
    exact ⟨congrArg Ending.returned (FAIL.out H.out), rfl⟩
  have hnn : s.toList ≠ [] := by
    rw [E.out]; intro hx; have := hl.out; rw [hx] at this; simp at this; omega
  have q1 : (s.toList == []) = false := by simpa using hnn
  have q2 : s.toList.isEmpty = false := by simpa using hnn
  have hp : 0 < s.size := by omega
  have hh := headB_eq (fun n => n == 48) s hp
  cases h2 : lead s.data.toList
  case true =>
    have H : Hid (isNum s.data.toList = false) := by
      unfold isNum; rw [h2, Bool.not_true, Bool.and_false]; exact rfl
    have g1 : 1 < s.size ∧ ((s[0].toNat : Int) == 48) = true := by
      unfold lead at h2; rw [hh, len_eq] at h2; simpa using h2
    obtain ⟨g1, g2⟩ := g1
    clear hh h2
    go_enter Tryd.func110, Tryd.ntmps110
    go_wp2_with (first | (go_at_call 74; refine (digit_any _ _).mono ?_; rintro e w' ⟨rfl, rfl⟩))
    go_ret2
    exact ⟨congrArg Ending.returned (FAIL.out H.out), rfl⟩
  have g : s.size ≤ 1 ∨ ((s[0].toNat : Int) == 48) = false := by
    by_cases c : s.size ≤ 1
    · exact Or.inl c
    · right
      unfold lead at h2; rw [hh, len_eq, decide_eq_true (by omega)] at h2; simpa using h2
  have H4 := Lib.hid h2
  have HG : Hid (1 < s.size → (s[0].toNat : Int) ≠ 48) := by
    intro h; rcases g with g | g
    · omega
    · simpa using g
  clear hh h2
  have ISN : Hid (s.size ≤ 4 → allB dgB s.data.toList = true → isNum s.data.toList = true) := by
    intro a b; unfold isNum; rw [b, H4.out, decide_eq_true (by rw [len_eq]; omega), decide_eq_true (by rw [len_eq]; omega)]; rfl
  have NOTN : Hid (4 < s.size ∨ allB dgB s.data.toList = false → isNum s.data.toList = false) := by
    intro a; unfold isNum; rcases a with a | a
    · rw [decide_eq_false (p := s.data.toList.length ≤ 4) (by rw [len_eq]; omega)]; simp
    · rw [a, Bool.and_false]
  have three : (((s[0].toNat : Int) == 48) = false ∧ 1 < s.size) ∨ (((s[0].toNat : Int) == 48) = false ∧ s.size ≤ 1) ∨ (((s[0].toNat : Int) == 48) = true ∧ s.size ≤ 1) := by
    rcases g with g | g
    · cases c : ((s[0].toNat : Int) == 48)
      · exact Or.inr (Or.inl ⟨rfl, g⟩)
      · exact Or.inr (Or.inr ⟨rfl, g⟩)
    · by_cases c : s.size ≤ 1
      · exact Or.inr (Or.inl ⟨g, c⟩)
      · exact Or.inl ⟨g, by omega⟩
  clear g
  rcases three with ⟨g1, g2⟩ | ⟨g1, g2⟩ | ⟨g1, g2⟩
  all_goals
    go_enter Tryd.func110, Tryd.ntmps110
    go_wp2_with (first | (go_at_call 74; refine (digit_any _ _).mono ?_; rintro e w' ⟨rfl, rfl⟩))
    clear g1
    go_loop [4, 20] (fun t i => ∃ (k : Nat) (n : Int), k ≤ s.size ∧ k ≤ 4 ∧ 0 ≤ n ∧ n ≤ 9999 ∧ Hid ((k = 0 → n = 0) ∧ (k = 1 → n ≤ 9) ∧ (k = 2 → n ≤ 99) ∧ (k = 3 → n ≤ 999)) ∧ Hid (1 < s.size → (k = 1 → 1 ≤ n) ∧ (k = 2 → 10 ≤ n) ∧ (k = 3 → 100 ≤ n) ∧ (k = 4 → 1000 ≤ n)) ∧ i = .int .i64 k ∧ t = .int .i64 n ∧ Hid (n = valL (s.data.toList.take k)) ∧ Hid (allB dgB (s.data.toList.take k) = true)) (fun _ i => s.size - (intOf i).toNat)
    case atStart => exact ⟨0, 0, Nat.zero_le _, by omega, by omega, by omega, Lib.hid ⟨by omega, by omega, by omega, by omega⟩, Lib.hid (fun _ => ⟨by omega, by omega, by omega, by omega⟩), rfl, rfl, Lib.hid rfl, Lib.hid rfl⟩
    case round =>
      obtain ⟨k, n, hk, hk4, hn0, hn1, U, HL, rfl, rfl, hV, hA⟩ := hrel
      by_cases hlt : k < s.size
      · have hsn : Hid (allB dgB (s.data.toList.take (k + 1)) = dgB s[k].toNat) := by
          rw [take_snoc s k hlt, allB_snoc, hA.out]; exact rfl
        have hvn : Hid (valL (s.data.toList.take (k + 1)) = 10 * n + ((s[k].toNat : Int) - 48)) := by
          rw [take_snoc s k hlt, valL_snoc, ← hV.out]; exact rfl
        have hno := Lib.hid (allB_no dgB s k hlt)
        have hz : Hid (k = 0 → 1 < s.size → (s[k].toNat : Int) ≠ 48) := by
          intro h; subst h; exact HG.out
        cases c1 : dgB s[k].toNat
        · have N : Hid (isNum s.data.toList = false) := NOTN.out (Or.inr (hno.out c1))
          go_wp2_with (first | (go_at_call 74; refine (digit_any _ _).mono ?_; rintro e w' ⟨rfl, rfl⟩))
          go_ret2
          exact ⟨congrArg Ending.returned (FAIL.out N.out), rfl⟩
        · have hd : 48 ≤ (s[k].toNat : Int) ∧ (s[k].toNat : Int) ≤ 57 := by simpa [dgB] using c1
          have hd1 := hd.1
          have hd2 := hd.2
          clear hd
          by_cases big : k = 4
          · have h1 : 1000 ≤ n := (HL.out (by omega)).2.2.2 big
            have N : Hid (isNum s.data.toList = false) := NOTN.out (Or.inl (by omega))
            clear big
            go_wp2_with (first | (go_at_call 74; refine (digit_any _ _).mono ?_; rintro e w' ⟨rfl, rfl⟩))
            go_ret2
            exact ⟨congrArg Ending.returned (FAIL.out N.out), rfl⟩
          · have up : 10 * n + ((s[k].toNat : Int) - 48) ≤ 9999 ∧ Hid ((k + 1 = 0 → 10 * n + ((s[k].toNat : Int) - 48) = 0) ∧ (k + 1 = 1 → 10 * n + ((s[k].toNat : Int) - 48) ≤ 9) ∧ (k + 1 = 2 → 10 * n + ((s[k].toNat : Int) - 48) ≤ 99) ∧ (k + 1 = 3 → 10 * n + ((s[k].toNat : Int) - 48) ≤ 999)) := by
              unfold Hid
              obtain ⟨a, b, c, d⟩ := U.out
              rcases (by omega : k = 0 ∨ k = 1 ∨ k = 2 ∨ k = 3) with rfl | rfl | rfl | rfl
              · have := a rfl; omega
              · have := b rfl; omega
              · have := c rfl; omega
              · have := d rfl; omega
            have dn : Hid (1 < s.size → (k + 1 = 1 → 1 ≤ 10 * n + ((s[k].toNat : Int) - 48)) ∧ (k + 1 = 2 → 10 ≤ 10 * n + ((s[k].toNat : Int) - 48)) ∧ (k + 1 = 3 → 100 ≤ 10 * n + ((s[k].toNat : Int) - 48)) ∧ (k + 1 = 4 → 1000 ≤ 10 * n + ((s[k].toNat : Int) - 48))) := by
              intro h
              obtain ⟨a, b, c, d⟩ := HL.out h
              rcases (by omega : k = 0 ∨ k = 1 ∨ k = 2 ∨ k = 3) with rfl | rfl | rfl | rfl
              · have := hz.out rfl h; omega
              · have := a rfl; omega
              · have := b rfl; omega
              · have := c rfl; omega
            obtain ⟨up0, UP⟩ := up
            have k3 : k + 1 ≤ 4 := by omega
            clear big
            go_wp2_with (first | (go_at_call 74; refine (digit_any _ _).mono ?_; rintro e w' ⟨rfl, rfl⟩))
            go_round
            case rel => exact ⟨k + 1, 10 * n + ((s[k].toNat : Int) - 48), by omega, k3, by omega, up0, UP, dn, by go_num, by first | rfl | go_num, hvn.out.symm, by rw [hsn.out]; exact c1⟩
            case measure => simp [intOf]; omega
      · have hx := allB_all dgB s k (by omega)
        rw [hA.out] at hx
        have N : Hid (isNum s.data.toList = true) := ISN.out (by omega) hx.symm
        have NV : Hid (numV s.data.toList = n) := by
          unfold numV; rw [if_pos N.out, hV.out, List.take_of_length_le (by rw [len_eq]; omega)]; exact rfl
        clear hx
        go_wp2_with (first | (go_at_call 74; refine (digit_any _ _).mono ?_; rintro e w' ⟨rfl, rfl⟩))
        go_ret2
        have V : Value.tuple #[.int .i64 n, .bool true] = Value.tuple #[.int .i64 (numV s.data.toList), .bool (isNum s.data.toList)] := by rw [N.out, NV.out]
        exact ⟨congrArg Ending.returned V, rfl⟩
set_option maxHeartbeats 3200000 in
theorem rnum_any (s : ByteArray) (w : World) (hs : s.size ≤ 140737488355328) :
    Calls Tryd.prog 114 #[.string s] w fun e w' => e = .returned (.tuple #[.int .i64 (numV s.data.toList), .bool (isNum s.data.toList)]) ∧ w = w' := by
  have E := Lib.hid (ByteArray.toList_eq s)
  have FAIL : Hid (isNum s.data.toList = false → Value.tuple #[.int .i64 0, .bool false] = Value.tuple #[.int .i64 (numV s.data.toList), .bool (isNum s.data.toList)]) := by
    intro h; unfold numV; rw [h]; rfl
  have hl := Lib.hid (len_eq s)
  by_cases h0 : s.size < 1
  · have hz : s.data.toList = [] := by apply List.eq_nil_of_length_eq_zero; rw [len_eq]; omega
    have H : Hid (isNum s.data.toList = false) := by rw [hz]; exact rfl
    have q2 : s.toList = [] := by rw [E.out, hz]
    clear hz
    go_enter Tryd.func114, Tryd.ntmps114
    go_wp2_with (first | (go_at_call 78; refine (rdigit_any _ _).mono ?_; rintro e w' ⟨rfl, rfl⟩))
    go_ret2
    exact ⟨congrArg Ending.returned (FAIL.out H.out), rfl⟩
  have hnn : s.toList ≠ [] := by
    rw [E.out]; intro hx; have := hl.out; rw [hx] at this; simp at this; omega
  have q1 : (s.toList == []) = false := by simpa using hnn
  have q2 : s.toList.isEmpty = false := by simpa using hnn
  have hp : 0 < s.size := by omega
  by_cases h4 : 4 < s.size
  · have H : Hid (isNum s.data.toList = false) := Lib.hid (by
      unfold isNum; rw [decide_eq_false (p := s.data.toList.length ≤ 4) (by rw [len_eq]; omega)]; simp)
    go_enter Tryd.func114, Tryd.ntmps114
    go_wp2_with (first | (go_at_call 78; refine (rdigit_any _ _).mono ?_; rintro e w' ⟨rfl, rfl⟩))
    go_ret2
    exact ⟨congrArg Ending.returned (FAIL.out H.out), rfl⟩
  have hh := headB_eq (fun n => n == 48) s hp
  cases h2 : lead s.data.toList
  case true =>
    have H : Hid (isNum s.data.toList = false) := by
      unfold isNum; rw [h2, Bool.not_true, Bool.and_false]; exact rfl
    have g1 : 1 < s.size ∧ ((s[0].toNat : Int) == 48) = true := by
      unfold lead at h2; rw [hh, len_eq] at h2; simpa using h2
    obtain ⟨g1, g2⟩ := g1
    clear hh h2
    go_enter Tryd.func114, Tryd.ntmps114
    go_wp2_with (first | (go_at_call 78; refine (rdigit_any _ _).mono ?_; rintro e w' ⟨rfl, rfl⟩))
    go_ret2
    exact ⟨congrArg Ending.returned (FAIL.out H.out), rfl⟩
  have g : s.size ≤ 1 ∨ ((s[0].toNat : Int) == 48) = false := by
    by_cases c : s.size ≤ 1
    · exact Or.inl c
    · right
      unfold lead at h2; rw [hh, len_eq, decide_eq_true (by omega)] at h2; simpa using h2
  have H4 := Lib.hid h2
  have HG : Hid (1 < s.size → (s[0].toNat : Int) ≠ 48) := by
    intro h; rcases g with g | g
    · omega
    · simpa using g
  clear hh h2
  have ISN : Hid (s.size ≤ 4 → allB dgB s.data.toList = true → isNum s.data.toList = true) := by
    intro a b; unfold isNum; rw [b, H4.out, decide_eq_true (by rw [len_eq]; omega), decide_eq_true (by rw [len_eq]; omega)]; rfl
  have NOTN : Hid (4 < s.size ∨ allB dgB s.data.toList = false → isNum s.data.toList = false) := by
    intro a; unfold isNum; rcases a with a | a
    · rw [decide_eq_false (p := s.data.toList.length ≤ 4) (by rw [len_eq]; omega)]; simp
    · rw [a, Bool.and_false]
  have three : (((s[0].toNat : Int) == 48) = false ∧ 1 < s.size) ∨ (((s[0].toNat : Int) == 48) = false ∧ s.size ≤ 1) ∨ (((s[0].toNat : Int) == 48) = true ∧ s.size ≤ 1) := by
    rcases g with g | g
    · cases c : ((s[0].toNat : Int) == 48)
      · exact Or.inr (Or.inl ⟨rfl, g⟩)
      · exact Or.inr (Or.inr ⟨rfl, g⟩)
    · by_cases c : s.size ≤ 1
      · exact Or.inr (Or.inl ⟨g, c⟩)
      · exact Or.inl ⟨g, by omega⟩
  clear g
  rcases three with ⟨g1, g2⟩ | ⟨g1, g2⟩ | ⟨g1, g2⟩
  all_goals
    go_enter Tryd.func114, Tryd.ntmps114
    go_wp2_with (first | (go_at_call 78; refine (rdigit_any _ _).mono ?_; rintro e w' ⟨rfl, rfl⟩))
    clear g1
    go_loop [4, 26] (fun t i => ∃ (k : Nat) (n : Int), k ≤ s.size ∧ k ≤ 4 ∧ 0 ≤ n ∧ n ≤ 9999 ∧ Hid ((k = 0 → n = 0) ∧ (k = 1 → n ≤ 9) ∧ (k = 2 → n ≤ 99) ∧ (k = 3 → n ≤ 999)) ∧ Hid (1 < s.size → (k = 1 → 1 ≤ n) ∧ (k = 2 → 10 ≤ n) ∧ (k = 3 → 100 ≤ n) ∧ (k = 4 → 1000 ≤ n)) ∧ i = .int .i64 k ∧ t = .int .i64 n ∧ Hid (n = valL (s.data.toList.take k)) ∧ Hid (allB dgB (s.data.toList.take k) = true)) (fun _ i => s.size - (intOf i).toNat)
    case atStart => exact ⟨0, 0, Nat.zero_le _, by omega, by omega, by omega, Lib.hid ⟨by omega, by omega, by omega, by omega⟩, Lib.hid (fun _ => ⟨by omega, by omega, by omega, by omega⟩), rfl, rfl, Lib.hid rfl, Lib.hid rfl⟩
    case round =>
      obtain ⟨k, n, hk, hk4, hn0, hn1, U, HL, rfl, rfl, hV, hA⟩ := hrel
      by_cases hlt : k < s.size
      · have hsn : Hid (allB dgB (s.data.toList.take (k + 1)) = dgB s[k].toNat) := by
          rw [take_snoc s k hlt, allB_snoc, hA.out]; exact rfl
        have hvn : Hid (valL (s.data.toList.take (k + 1)) = 10 * n + ((s[k].toNat : Int) - 48)) := by
          rw [take_snoc s k hlt, valL_snoc, ← hV.out]; exact rfl
        have hno := Lib.hid (allB_no dgB s k hlt)
        have hz : Hid (k = 0 → 1 < s.size → (s[k].toNat : Int) ≠ 48) := by
          intro h; subst h; exact HG.out
        cases c1 : dgB s[k].toNat
        · have N : Hid (isNum s.data.toList = false) := NOTN.out (Or.inr (hno.out c1))
          go_wp2_with (first | (go_at_call 78; refine (rdigit_any _ _).mono ?_; rintro e w' ⟨rfl, rfl⟩))
          go_ret2
          exact ⟨congrArg Ending.returned (FAIL.out N.out), rfl⟩
        · have hd : 48 ≤ (s[k].toNat : Int) ∧ (s[k].toNat : Int) ≤ 57 := by simpa [dgB] using c1
          have hd1 := hd.1
          have hd2 := hd.2
          clear hd
          by_cases big : k = 4
          · omega
          · have up : 10 * n + ((s[k].toNat : Int) - 48) ≤ 9999 ∧ Hid ((k + 1 = 0 → 10 * n + ((s[k].toNat : Int) - 48) = 0) ∧ (k + 1 = 1 → 10 * n + ((s[k].toNat : Int) - 48) ≤ 9) ∧ (k + 1 = 2 → 10 * n + ((s[k].toNat : Int) - 48) ≤ 99) ∧ (k + 1 = 3 → 10 * n + ((s[k].toNat : Int) - 48) ≤ 999)) := by
              unfold Hid
              obtain ⟨a, b, c, d⟩ := U.out
              rcases (by omega : k = 0 ∨ k = 1 ∨ k = 2 ∨ k = 3) with rfl | rfl | rfl | rfl
              · have := a rfl; omega
              · have := b rfl; omega
              · have := c rfl; omega
              · have := d rfl; omega
            have dn : Hid (1 < s.size → (k + 1 = 1 → 1 ≤ 10 * n + ((s[k].toNat : Int) - 48)) ∧ (k + 1 = 2 → 10 ≤ 10 * n + ((s[k].toNat : Int) - 48)) ∧ (k + 1 = 3 → 100 ≤ 10 * n + ((s[k].toNat : Int) - 48)) ∧ (k + 1 = 4 → 1000 ≤ 10 * n + ((s[k].toNat : Int) - 48))) := by
              intro h
              obtain ⟨a, b, c, d⟩ := HL.out h
              rcases (by omega : k = 0 ∨ k = 1 ∨ k = 2 ∨ k = 3) with rfl | rfl | rfl | rfl
              · have := hz.out rfl h; omega
              · have := a rfl; omega
              · have := b rfl; omega
              · have := c rfl; omega
            obtain ⟨up0, UP⟩ := up
            have k3 : k + 1 ≤ 4 := by omega
            clear big
            go_wp2_with (first | (go_at_call 78; refine (rdigit_any _ _).mono ?_; rintro e w' ⟨rfl, rfl⟩))
            go_round
            case rel => exact ⟨k + 1, 10 * n + ((s[k].toNat : Int) - 48), by omega, k3, by omega, up0, UP, dn, by go_num, by first | rfl | go_num, hvn.out.symm, by rw [hsn.out]; exact c1⟩
            case measure => simp [intOf]; omega
      · have hx := allB_all dgB s k (by omega)
        rw [hA.out] at hx
        have N : Hid (isNum s.data.toList = true) := ISN.out (by omega) hx.symm
        have NV : Hid (numV s.data.toList = n) := by
          unfold numV; rw [if_pos N.out, hV.out, List.take_of_length_le (by rw [len_eq]; omega)]; exact rfl
        clear hx
        go_wp2_with (first | (go_at_call 78; refine (rdigit_any _ _).mono ?_; rintro e w' ⟨rfl, rfl⟩))
        go_ret2
        have V : Value.tuple #[.int .i64 n, .bool true] = Value.tuple #[.int .i64 (numV s.data.toList), .bool (isNum s.data.toList)] := by rw [N.out, NV.out]
        exact ⟨congrArg Ending.returned V, rfl⟩
end LexD
end Go.Proofs.YtfdpelokiljigaaDoor
/- Word, skip, the kinds of runs: contracts. -/
namespace Go.Proofs.YtfdpelokiljigaaDoor
open Go Go.RowKit
namespace LexE
open Kit LexM LexA LexB LexC LexD
/-- The variable 'words' holds the three reserved words. -/
def Wd (w : World) : Prop := 2 < w.heap.size ∧ w.cell? ⟨2, 0, none⟩ = some (.string ⟨#[105, 102]⟩) ∧ w.cell? ⟨2, 1, none⟩ = some (.string ⟨#[97, 110, 100]⟩) ∧ w.cell? ⟨2, 2, none⟩ = some (.string ⟨#[110, 111, 116]⟩)
theorem Wd.below {w w' : World} {B : Nat} (h : Wd w) (hb : Below B w w') (hB : 2 < B) : Wd w' :=
  ⟨Nat.lt_of_lt_of_le h.1 hb.size, (hb.cell (p := ⟨2, 0, none⟩) hB).trans h.2.1, (hb.cell (p := ⟨2, 1, none⟩) hB).trans h.2.2.1, (hb.cell (p := ⟨2, 2, none⟩) hB).trans h.2.2.2⟩
set_option maxHeartbeats 1600000 in
theorem word_any (s : ByteArray) (w : World) (hw : Wd w) :
    Calls Tryd.prog 118 #[.string s] w fun e w' => e = .returned (.bool (resB s.data.toList)) ∧ w = w' := by
  obtain ⟨h0, c0, c1, c2⟩ := hw
  have E := Lib.hid (ByteArray.toList_eq s)
  have i0 : ∀ w, (Instr.index 118 (.agg #[.string ⟨#[105, 102]⟩, .string ⟨#[97, 110, 100]⟩, .string ⟨#[110, 111, 116]⟩]) (.int .i64 0)).run Tryd.prog w = .ok (.string ⟨#[105, 102]⟩) w := fun _ => by kernel_rfl
  have i1 : ∀ w, (Instr.index 118 (.agg #[.string ⟨#[105, 102]⟩, .string ⟨#[97, 110, 100]⟩, .string ⟨#[110, 111, 116]⟩]) (.int .i64 1)).run Tryd.prog w = .ok (.string ⟨#[97, 110, 100]⟩) w := fun _ => by kernel_rfl
  have i2 : ∀ w, (Instr.index 118 (.agg #[.string ⟨#[105, 102]⟩, .string ⟨#[97, 110, 100]⟩, .string ⟨#[110, 111, 116]⟩]) (.int .i64 2)).run Tryd.prog w = .ok (.string ⟨#[110, 111, 116]⟩) w := fun _ => by kernel_rfl
  go_enter Tryd.func118, Tryd.ntmps118
  go_wp2_with fail
  have HR : Hid (resB s.data.toList = (s.toList == [105, 102] || s.toList == [97, 110, 100] || s.toList == [110, 111, 116])) := by rw [E.out]; exact rfl
  refine wp_loop_rounds 4 ?_
  cases q1 : (s.toList == [105, 102])
  case true =>
    have p1 : s.toList = [105, 102] := by simpa using q1
    have V : Hid (resB s.data.toList = true) := by rw [HR.out, q1]; exact rfl
    rw [rounds_succ]
    go_wp2_with fail
    go_ret
    exact ⟨ret_bool V.out.symm, rfl⟩
  have p1 : ¬ s.toList = [105, 102] := by simpa using q1
  cases q2 : (s.toList == [97, 110, 100])
  case true =>
    have p2 : s.toList = [97, 110, 100] := by simpa using q2
    have V : Hid (resB s.data.toList = true) := by rw [HR.out, q1, q2]; exact rfl
    clear p1
    rw [rounds_succ]
    go_wp2_with fail
    rw [rounds_succ]
    go_wp2_with fail
    go_ret
    exact ⟨ret_bool V.out.symm, rfl⟩
  have p2 : ¬ s.toList = [97, 110, 100] := by simpa using q2
  cases q3 : (s.toList == [110, 111, 116])
  case true =>
    have p3 : s.toList = [110, 111, 116] := by simpa using q3
    have V : Hid (resB s.data.toList = true) := by rw [HR.out, q1, q2, q3]; exact rfl
    clear p1 p2
    rw [rounds_succ]
    go_wp2_with fail
    rw [rounds_succ]
    go_wp2_with fail
    rw [rounds_succ]
    go_wp2_with fail
    go_ret
    exact ⟨ret_bool V.out.symm, rfl⟩
  have p3 : ¬ s.toList = [110, 111, 116] := by simpa using q3
  have V : Hid (resB s.data.toList = false) := by rw [HR.out, q1, q2, q3]; exact rfl
  rw [rounds_succ]
  go_wp2_with fail
  rw [rounds_succ]
  go_wp2_with fail
  rw [rounds_succ]
  go_wp2_with fail
  rw [rounds_succ]
  go_wp2_with fail
  go_ret
  exact ⟨ret_bool V.out.symm, rfl⟩
/-- How far a predicate holds. -/
def spanL (p : Int → Bool) (l : List UInt8) : Nat := (l.takeWhile (fun b => p b.toNat)).length
theorem spanL_le (p : Int → Bool) (l : List UInt8) : spanL p l ≤ l.length := by unfold spanL; exact (List.takeWhile_prefix _).length_le
theorem span_next (p : Int → Bool) (s : ByteArray) (k : Nat) (h : k < s.size) : spanL p (s.data.toList.drop k) = if p s[k].toNat = true then spanL p (s.data.toList.drop (k + 1)) + 1 else 0 := by
  have hl : k < s.data.toList.length := by simpa using h
  unfold spanL
  rw [List.drop_eq_getElem_cons hl, List.takeWhile_cons]
  have e : s.data.toList[k] = s[k] := rfl
  rw [e]
  by_cases c : p s[k].toNat = true
  · rw [if_pos c, if_pos c]; simp
  · rw [if_neg c, if_neg c]; simp
theorem span_end (p : Int → Bool) (s : ByteArray) (k : Nat) (h : s.size ≤ k) : spanL p (s.data.toList.drop k) = 0 := by
  rw [List.drop_eq_nil_of_le (by simpa using h)]; rfl
set_option maxHeartbeats 1600000 in
theorem skip_line (s : ByteArray) (at_ : Nat) (w : World) (hs : s.size ≤ 140737488355328) (ha : at_ ≤ s.size) :
    Calls Tryd.prog 101 #[.string s, .int .i64 at_, .func (.func 102) #[] #[]] w fun e w' => e = .returned (.int .i64 ((at_ + spanL ncB (s.data.toList.drop at_) : Nat) : Int)) ∧ w = w' := by
  have F := Lib.hid line_any
  generalize hR : at_ + spanL ncB (s.data.toList.drop at_) = R
  have HR := Lib.hid hR
  clear hR
  go_enter Tryd.func101, Tryd.ntmps101
  go_wp2_with fail
  go_loop [1] (fun i => ∃ k : Nat, k ≤ s.size ∧ i = .int .i64 k ∧ Hid (k + spanL ncB (s.data.toList.drop k) = R)) (fun i => s.size - (intOf i).toNat)
  case atStart => exact ⟨at_, ha, rfl, HR⟩
  case round =>
    obtain ⟨k, hk, rfl, hA⟩ := hrel
    by_cases hlt : k < s.size
    · have hn := span_next ncB s k hlt
      cases c : ncB s[k].toNat
      · rw [c, if_neg (by simp)] at hn
        have HX := hA.out
        rw [hn, Nat.add_zero] at HX
        subst HX
        clear hA hn HR
        go_wp2_with fail
        refine (F.out _ _).mono ?_
        rintro e w' ⟨rfl, rfl⟩
        go_wp2_with fail
        go_ret
        exact ⟨rfl, rfl⟩
      · rw [c, if_pos rfl] at hn
        have HX : Hid (k + 1 + spanL ncB (s.data.toList.drop (k + 1)) = R) := by rw [← hA.out, hn]; exact Lib.hid (by omega)
        clear hA hn HR
        go_wp2_with fail
        refine (F.out _ _).mono ?_
        rintro e w' ⟨rfl, rfl⟩
        go_wp2_with fail
        go_round
        case rel => exact ⟨k + 1, by omega, by go_num, HX⟩
        case measure => simp [intOf]; omega
    · have hn := span_end ncB s k (by omega)
      have HX := hA.out
      rw [hn, Nat.add_zero] at HX
      subst HX
      clear hA hn HR
      go_wp2_with fail
      go_ret
      exact ⟨rfl, rfl⟩
set_option maxHeartbeats 1600000 in
theorem skip_run (s : ByteArray) (at_ : Nat) (w : World) (hs : s.size ≤ 140737488355328) (ha : at_ ≤ s.size) :
    Calls Tryd.prog 101 #[.string s, .int .i64 at_, .func (.func 104) #[] #[]] w fun e w' => e = .returned (.int .i64 ((at_ + spanL ruB (s.data.toList.drop at_) : Nat) : Int)) ∧ w = w' := by
  have F := Lib.hid run_any
  generalize hR : at_ + spanL ruB (s.data.toList.drop at_) = R
  have HR := Lib.hid hR
  clear hR
  go_enter Tryd.func101, Tryd.ntmps101
  go_wp2_with fail
  go_loop [1] (fun i => ∃ k : Nat, k ≤ s.size ∧ i = .int .i64 k ∧ Hid (k + spanL ruB (s.data.toList.drop k) = R)) (fun i => s.size - (intOf i).toNat)
  case atStart => exact ⟨at_, ha, rfl, HR⟩
  case round =>
    obtain ⟨k, hk, rfl, hA⟩ := hrel
    by_cases hlt : k < s.size
    · have hn := span_next ruB s k hlt
      cases c : ruB s[k].toNat
      · rw [c, if_neg (by simp)] at hn
        have HX := hA.out
        rw [hn, Nat.add_zero] at HX
        subst HX
        clear hA hn HR
        go_wp2_with fail
        refine (F.out _ _).mono ?_
        rintro e w' ⟨rfl, rfl⟩
        go_wp2_with fail
        go_ret
        exact ⟨rfl, rfl⟩
      · rw [c, if_pos rfl] at hn
        have HX : Hid (k + 1 + spanL ruB (s.data.toList.drop (k + 1)) = R) := by rw [← hA.out, hn]; exact Lib.hid (by omega)
        clear hA hn HR
        go_wp2_with fail
        refine (F.out _ _).mono ?_
        rintro e w' ⟨rfl, rfl⟩
        go_wp2_with fail
        go_round
        case rel => exact ⟨k + 1, by omega, by go_num, HX⟩
        case measure => simp [intOf]; omega
    · have hn := span_end ruB s k (by omega)
      have HX := hA.out
      rw [hn, Nat.add_zero] at HX
      subst HX
      clear hA hn HR
      go_wp2_with fail
      go_ret
      exact ⟨rfl, rfl⟩
end LexE
end Go.Proofs.YtfdpelokiljigaaDoor
