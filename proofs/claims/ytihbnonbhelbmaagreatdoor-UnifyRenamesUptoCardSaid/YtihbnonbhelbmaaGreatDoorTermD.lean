/- The contracts of Number, of the code and of the reference. Condition: the string's length. -/
import Derived.Test.YtihbnonbhelbmaaGreatDoorTermA
namespace Go.Proofs.YtihbnonbhelbmaaGreatDoor
open Go Go.RowKit
namespace TermD
open Kit LexM TermA
set_option maxHeartbeats 3200000 in
theorem num_any (s : ByteArray) (w : World) (hs : s.size ≤ 9223372036854775807) :
    Calls Tryz.prog 128 #[.string s] w fun e w' => e = .returned (.tuple #[.int .i64 (numV s.data.toList), .bool (isNum s.data.toList)]) ∧ w = w' := by
  have E := Lib.hid (ByteArray.toList_eq s)
  have FAIL : Hid (isNum s.data.toList = false → Value.tuple #[.int .i64 0, .bool false] = Value.tuple #[.int .i64 (numV s.data.toList), .bool (isNum s.data.toList)]) := by
    intro h; unfold numV; rw [h]; rfl
  have hl := Lib.hid (len_eq s)
  by_cases h0 : s.size < 1
  · have hz : s.data.toList = [] := by apply List.eq_nil_of_length_eq_zero; rw [len_eq]; omega
    have H : Hid (isNum s.data.toList = false) := by rw [hz]; exact rfl
    have q2 : s.toList = [] := by rw [E.out, hz]
    clear hz
    go_enter Tryz.func128, Tryz.ntmps128
    go_wp2_with (first | (go_at_call 73; refine (digit_any _ _).mono ?_; rintro e w' ⟨rfl, rfl⟩))
    go_ret2
    exact ⟨congrArg Ending.returned (FAIL.out H.out), rfl⟩
  have hnn : s.toList ≠ [] := by
    rw [E.out]; intro hx; have := hl.out; rw [hx] at this; simp at this; omega
  have q1 : (s.toList == []) = false := by simpa using hnn
  have q2 : s.toList.isEmpty = false := by simpa using hnn
  have hp : 0 < s.size := by omega
  have hh := headB_eq (fun n => n == 48) s hp
  cases h2 : lead s.data.toList
  case true =>
    have H : Hid (isNum s.data.toList = false) := by
      unfold isNum; rw [h2, Bool.not_true, Bool.and_false]; exact rfl
    have g1 : 1 < s.size ∧ ((s[0].toNat : Int) == 48) = true := by
      unfold lead at h2; rw [hh, len_eq] at h2; simpa using h2
    obtain ⟨g1, g2⟩ := g1
    clear hh h2
    go_enter Tryz.func128, Tryz.ntmps128
    go_wp2_with (first | (go_at_call 73; refine (digit_any _ _).mono ?_; rintro e w' ⟨rfl, rfl⟩))
    go_ret2
    exact ⟨congrArg Ending.returned (FAIL.out H.out), rfl⟩
  have g : s.size ≤ 1 ∨ ((s[0].toNat : Int) == 48) = false := by
    by_cases c : s.size ≤ 1
    · exact Or.inl c
    · right
      unfold lead at h2; rw [hh, len_eq, decide_eq_true (by omega)] at h2; simpa using h2
  have H4 := Lib.hid h2
  have HG : Hid (1 < s.size → (s[0].toNat : Int) ≠ 48) := by
    intro h; rcases g with g | g
    · omega
    · simpa using g
  clear hh h2
  have ISN : Hid (s.size ≤ 4 → allB dgB s.data.toList = true → isNum s.data.toList = true) := by
    intro a b; unfold isNum; rw [b, H4.out, decide_eq_true (by rw [len_eq]; omega), decide_eq_true (by rw [len_eq]; omega)]; rfl
  have NOTN : Hid (4 < s.size ∨ allB dgB s.data.toList = false → isNum s.data.toList = false) := by
    intro a; unfold isNum; rcases a with a | a
    · rw [decide_eq_false (p := s.data.toList.length ≤ 4) (by rw [len_eq]; omega)]; simp
    · rw [a, Bool.and_false]
  have three : (((s[0].toNat : Int) == 48) = false ∧ 1 < s.size) ∨ (((s[0].toNat : Int) == 48) = false ∧ s.size ≤ 1) ∨ (((s[0].toNat : Int) == 48) = true ∧ s.size ≤ 1) := by
    rcases g with g | g
    · cases c : ((s[0].toNat : Int) == 48)
      · exact Or.inr (Or.inl ⟨rfl, g⟩)
      · exact Or.inr (Or.inr ⟨rfl, g⟩)
    · by_cases c : s.size ≤ 1
      · exact Or.inr (Or.inl ⟨g, c⟩)
      · exact Or.inl ⟨g, by omega⟩
  clear g
  rcases three with ⟨g1, g2⟩ | ⟨g1, g2⟩ | ⟨g1, g2⟩
  all_goals
    go_enter Tryz.func128, Tryz.ntmps128
    go_wp2_with (first | (go_at_call 73; refine (digit_any _ _).mono ?_; rintro e w' ⟨rfl, rfl⟩))
    clear g1
    go_loop [4, 20] (fun t i => ∃ (k : Nat) (n : Int), k ≤ s.size ∧ k ≤ 4 ∧ 0 ≤ n ∧ n ≤ 9999 ∧ Hid ((k = 0 → n = 0) ∧ (k = 1 → n ≤ 9) ∧ (k = 2 → n ≤ 99) ∧ (k = 3 → n ≤ 999)) ∧ Hid (1 < s.size → (k = 1 → 1 ≤ n) ∧ (k = 2 → 10 ≤ n) ∧ (k = 3 → 100 ≤ n) ∧ (k = 4 → 1000 ≤ n)) ∧ i = .int .i64 k ∧ t = .int .i64 n ∧ Hid (n = valL (s.data.toList.take k)) ∧ Hid (allB dgB (s.data.toList.take k) = true)) (fun _ i => s.size - (intOf i).toNat)
    case atStart => exact ⟨0, 0, Nat.zero_le _, by omega, by omega, by omega, Lib.hid ⟨by omega, by omega, by omega, by omega⟩, Lib.hid (fun _ => ⟨by omega, by omega, by omega, by omega⟩), rfl, rfl, Lib.hid rfl, Lib.hid rfl⟩
    case round =>
      obtain ⟨k, n, hk, hk4, hn0, hn1, U, HL, rfl, rfl, hV, hA⟩ := hrel
      by_cases hlt : k < s.size
      · have hsn : Hid (allB dgB (s.data.toList.take (k + 1)) = dgB s[k].toNat) := by
          rw [take_snoc s k hlt, allB_snoc, hA.out]; exact rfl
        have hvn : Hid (valL (s.data.toList.take (k + 1)) = 10 * n + ((s[k].toNat : Int) - 48)) := by
          rw [take_snoc s k hlt, valL_snoc, ← hV.out]; exact rfl
        have hno := Lib.hid (allB_no dgB s k hlt)
        have hz : Hid (k = 0 → 1 < s.size → (s[k].toNat : Int) ≠ 48) := by
          intro h; subst h; exact HG.out
        cases c1 : dgB s[k].toNat
        · have N : Hid (isNum s.data.toList = false) := NOTN.out (Or.inr (hno.out c1))
          go_wp2_with (first | (go_at_call 73; refine (digit_any _ _).mono ?_; rintro e w' ⟨rfl, rfl⟩))
          go_ret2
          exact ⟨congrArg Ending.returned (FAIL.out N.out), rfl⟩
        · have hd : 48 ≤ (s[k].toNat : Int) ∧ (s[k].toNat : Int) ≤ 57 := by simpa [dgB] using c1
          have hd1 := hd.1
          have hd2 := hd.2
          clear hd
          by_cases big : k = 4
          · have h1 : 1000 ≤ n := (HL.out (by omega)).2.2.2 big
            have N : Hid (isNum s.data.toList = false) := NOTN.out (Or.inl (by omega))
            clear big
            go_wp2_with (first | (go_at_call 73; refine (digit_any _ _).mono ?_; rintro e w' ⟨rfl, rfl⟩))
            go_ret2
            exact ⟨congrArg Ending.returned (FAIL.out N.out), rfl⟩
          · have up : 10 * n + ((s[k].toNat : Int) - 48) ≤ 9999 ∧ Hid ((k + 1 = 0 → 10 * n + ((s[k].toNat : Int) - 48) = 0) ∧ (k + 1 = 1 → 10 * n + ((s[k].toNat : Int) - 48) ≤ 9) ∧ (k + 1 = 2 → 10 * n + ((s[k].toNat : Int) - 48) ≤ 99) ∧ (k + 1 = 3 → 10 * n + ((s[k].toNat : Int) - 48) ≤ 999)) := by
              unfold Hid
              obtain ⟨a, b, c, d⟩ := U.out
              rcases (by omega : k = 0 ∨ k = 1 ∨ k = 2 ∨ k = 3) with rfl | rfl | rfl | rfl
              · have := a rfl; omega
              · have := b rfl; omega
              · have := c rfl; omega
              · have := d rfl; omega
            have dn : Hid (1 < s.size → (k + 1 = 1 → 1 ≤ 10 * n + ((s[k].toNat : Int) - 48)) ∧ (k + 1 = 2 → 10 ≤ 10 * n + ((s[k].toNat : Int) - 48)) ∧ (k + 1 = 3 → 100 ≤ 10 * n + ((s[k].toNat : Int) - 48)) ∧ (k + 1 = 4 → 1000 ≤ 10 * n + ((s[k].toNat : Int) - 48))) := by
              intro h
              obtain ⟨a, b, c, d⟩ := HL.out h
              rcases (by omega : k = 0 ∨ k = 1 ∨ k = 2 ∨ k = 3) with rfl | rfl | rfl | rfl
              · have := hz.out rfl h; omega
              · have := a rfl; omega
              · have := b rfl; omega
              · have := c rfl; omega
            obtain ⟨up0, UP⟩ := up
            have k3 : k + 1 ≤ 4 := by omega
            clear big
            go_wp2_with (first | (go_at_call 73; refine (digit_any _ _).mono ?_; rintro e w' ⟨rfl, rfl⟩))
            go_round
            case rel => exact ⟨k + 1, 10 * n + ((s[k].toNat : Int) - 48), by omega, k3, by omega, up0, UP, dn, by go_num, by first | rfl | go_num, hvn.out.symm, by rw [hsn.out]; exact c1⟩
            case measure => simp [intOf]; omega
      · have hx := allB_all dgB s k (by omega)
        rw [hA.out] at hx
        have N : Hid (isNum s.data.toList = true) := ISN.out (by omega) hx.symm
        have NV : Hid (numV s.data.toList = n) := by
          unfold numV; rw [if_pos N.out, hV.out, List.take_of_length_le (by rw [len_eq]; omega)]; exact rfl
        clear hx
        go_wp2_with (first | (go_at_call 73; refine (digit_any _ _).mono ?_; rintro e w' ⟨rfl, rfl⟩))
        go_ret2
        have V : Value.tuple #[.int .i64 n, .bool true] = Value.tuple #[.int .i64 (numV s.data.toList), .bool (isNum s.data.toList)] := by rw [N.out, NV.out]
        exact ⟨congrArg Ending.returned V, rfl⟩
set_option maxHeartbeats 3200000 in
theorem rnum_any (s : ByteArray) (w : World) (hs : s.size ≤ 9223372036854775807) :
    Calls Tryz.prog 146 #[.string s] w fun e w' => e = .returned (.tuple #[.int .i64 (numV s.data.toList), .bool (isNum s.data.toList)]) ∧ w = w' := by
  have E := Lib.hid (ByteArray.toList_eq s)
  have FAIL : Hid (isNum s.data.toList = false → Value.tuple #[.int .i64 0, .bool false] = Value.tuple #[.int .i64 (numV s.data.toList), .bool (isNum s.data.toList)]) := by
    intro h; unfold numV; rw [h]; rfl
  have hl := Lib.hid (len_eq s)
  by_cases h0 : s.size < 1
  · have hz : s.data.toList = [] := by apply List.eq_nil_of_length_eq_zero; rw [len_eq]; omega
    have H : Hid (isNum s.data.toList = false) := by rw [hz]; exact rfl
    have q2 : s.toList = [] := by rw [E.out, hz]
    clear hz
    go_enter Tryz.func146, Tryz.ntmps146
    go_wp2_with (first | (go_at_call 70; refine (rdigit_any _ _).mono ?_; rintro e w' ⟨rfl, rfl⟩))
    go_ret2
    exact ⟨congrArg Ending.returned (FAIL.out H.out), rfl⟩
  have hnn : s.toList ≠ [] := by
    rw [E.out]; intro hx; have := hl.out; rw [hx] at this; simp at this; omega
  have q1 : (s.toList == []) = false := by simpa using hnn
  have q2 : s.toList.isEmpty = false := by simpa using hnn
  have hp : 0 < s.size := by omega
  by_cases h4 : 4 < s.size
  · have H : Hid (isNum s.data.toList = false) := Lib.hid (by
      unfold isNum; rw [decide_eq_false (p := s.data.toList.length ≤ 4) (by rw [len_eq]; omega)]; simp)
    go_enter Tryz.func146, Tryz.ntmps146
    go_wp2_with (first | (go_at_call 70; refine (rdigit_any _ _).mono ?_; rintro e w' ⟨rfl, rfl⟩))
    go_ret2
    exact ⟨congrArg Ending.returned (FAIL.out H.out), rfl⟩
  have hh := headB_eq (fun n => n == 48) s hp
  cases h2 : lead s.data.toList
  case true =>
    have H : Hid (isNum s.data.toList = false) := by
      unfold isNum; rw [h2, Bool.not_true, Bool.and_false]; exact rfl
    have g1 : 1 < s.size ∧ ((s[0].toNat : Int) == 48) = true := by
      unfold lead at h2; rw [hh, len_eq] at h2; simpa using h2
    obtain ⟨g1, g2⟩ := g1
    clear hh h2
    go_enter Tryz.func146, Tryz.ntmps146
    go_wp2_with (first | (go_at_call 70; refine (rdigit_any _ _).mono ?_; rintro e w' ⟨rfl, rfl⟩))
    go_ret2
    exact ⟨congrArg Ending.returned (FAIL.out H.out), rfl⟩
  have g : s.size ≤ 1 ∨ ((s[0].toNat : Int) == 48) = false := by
    by_cases c : s.size ≤ 1
    · exact Or.inl c
    · right
      unfold lead at h2; rw [hh, len_eq, decide_eq_true (by omega)] at h2; simpa using h2
  have H4 := Lib.hid h2
  have HG : Hid (1 < s.size → (s[0].toNat : Int) ≠ 48) := by
    intro h; rcases g with g | g
    · omega
    · simpa using g
  clear hh h2
  have ISN : Hid (s.size ≤ 4 → allB dgB s.data.toList = true → isNum s.data.toList = true) := by
    intro a b; unfold isNum; rw [b, H4.out, decide_eq_true (by rw [len_eq]; omega), decide_eq_true (by rw [len_eq]; omega)]; rfl
  have NOTN : Hid (4 < s.size ∨ allB dgB s.data.toList = false → isNum s.data.toList = false) := by
    intro a; unfold isNum; rcases a with a | a
    · rw [decide_eq_false (p := s.data.toList.length ≤ 4) (by rw [len_eq]; omega)]; simp
    · rw [a, Bool.and_false]
  have three : (((s[0].toNat : Int) == 48) = false ∧ 1 < s.size) ∨ (((s[0].toNat : Int) == 48) = false ∧ s.size ≤ 1) ∨ (((s[0].toNat : Int) == 48) = true ∧ s.size ≤ 1) := by
    rcases g with g | g
    · cases c : ((s[0].toNat : Int) == 48)
      · exact Or.inr (Or.inl ⟨rfl, g⟩)
      · exact Or.inr (Or.inr ⟨rfl, g⟩)
    · by_cases c : s.size ≤ 1
      · exact Or.inr (Or.inl ⟨g, c⟩)
      · exact Or.inl ⟨g, by omega⟩
  clear g
  rcases three with ⟨g1, g2⟩ | ⟨g1, g2⟩ | ⟨g1, g2⟩
  all_goals
    go_enter Tryz.func146, Tryz.ntmps146
    go_wp2_with (first | (go_at_call 70; refine (rdigit_any _ _).mono ?_; rintro e w' ⟨rfl, rfl⟩))
    clear g1
    go_loop [4, 26] (fun t i => ∃ (k : Nat) (n : Int), k ≤ s.size ∧ k ≤ 4 ∧ 0 ≤ n ∧ n ≤ 9999 ∧ Hid ((k = 0 → n = 0) ∧ (k = 1 → n ≤ 9) ∧ (k = 2 → n ≤ 99) ∧ (k = 3 → n ≤ 999)) ∧ Hid (1 < s.size → (k = 1 → 1 ≤ n) ∧ (k = 2 → 10 ≤ n) ∧ (k = 3 → 100 ≤ n) ∧ (k = 4 → 1000 ≤ n)) ∧ i = .int .i64 k ∧ t = .int .i64 n ∧ Hid (n = valL (s.data.toList.take k)) ∧ Hid (allB dgB (s.data.toList.take k) = true)) (fun _ i => s.size - (intOf i).toNat)
    case atStart => exact ⟨0, 0, Nat.zero_le _, by omega, by omega, by omega, Lib.hid ⟨by omega, by omega, by omega, by omega⟩, Lib.hid (fun _ => ⟨by omega, by omega, by omega, by omega⟩), rfl, rfl, Lib.hid rfl, Lib.hid rfl⟩
    case round =>
      obtain ⟨k, n, hk, hk4, hn0, hn1, U, HL, rfl, rfl, hV, hA⟩ := hrel
      by_cases hlt : k < s.size
      · have hsn : Hid (allB dgB (s.data.toList.take (k + 1)) = dgB s[k].toNat) := by
          rw [take_snoc s k hlt, allB_snoc, hA.out]; exact rfl
        have hvn : Hid (valL (s.data.toList.take (k + 1)) = 10 * n + ((s[k].toNat : Int) - 48)) := by
          rw [take_snoc s k hlt, valL_snoc, ← hV.out]; exact rfl
        have hno := Lib.hid (allB_no dgB s k hlt)
        have hz : Hid (k = 0 → 1 < s.size → (s[k].toNat : Int) ≠ 48) := by
          intro h; subst h; exact HG.out
        cases c1 : dgB s[k].toNat
        · have N : Hid (isNum s.data.toList = false) := NOTN.out (Or.inr (hno.out c1))
          go_wp2_with (first | (go_at_call 70; refine (rdigit_any _ _).mono ?_; rintro e w' ⟨rfl, rfl⟩))
          go_ret2
          exact ⟨congrArg Ending.returned (FAIL.out N.out), rfl⟩
        · have hd : 48 ≤ (s[k].toNat : Int) ∧ (s[k].toNat : Int) ≤ 57 := by simpa [dgB] using c1
          have hd1 := hd.1
          have hd2 := hd.2
          clear hd
          by_cases big : k = 4
          · omega
          · have up : 10 * n + ((s[k].toNat : Int) - 48) ≤ 9999 ∧ Hid ((k + 1 = 0 → 10 * n + ((s[k].toNat : Int) - 48) = 0) ∧ (k + 1 = 1 → 10 * n + ((s[k].toNat : Int) - 48) ≤ 9) ∧ (k + 1 = 2 → 10 * n + ((s[k].toNat : Int) - 48) ≤ 99) ∧ (k + 1 = 3 → 10 * n + ((s[k].toNat : Int) - 48) ≤ 999)) := by
              unfold Hid
              obtain ⟨a, b, c, d⟩ := U.out
              rcases (by omega : k = 0 ∨ k = 1 ∨ k = 2 ∨ k = 3) with rfl | rfl | rfl | rfl
              · have := a rfl; omega
              · have := b rfl; omega
              · have := c rfl; omega
              · have := d rfl; omega
            have dn : Hid (1 < s.size → (k + 1 = 1 → 1 ≤ 10 * n + ((s[k].toNat : Int) - 48)) ∧ (k + 1 = 2 → 10 ≤ 10 * n + ((s[k].toNat : Int) - 48)) ∧ (k + 1 = 3 → 100 ≤ 10 * n + ((s[k].toNat : Int) - 48)) ∧ (k + 1 = 4 → 1000 ≤ 10 * n + ((s[k].toNat : Int) - 48))) := by
              intro h
              obtain ⟨a, b, c, d⟩ := HL.out h
              rcases (by omega : k = 0 ∨ k = 1 ∨ k = 2 ∨ k = 3) with rfl | rfl | rfl | rfl
              · have := hz.out rfl h; omega
              · have := a rfl; omega
              · have := b rfl; omega
              · have := c rfl; omega
            obtain ⟨up0, UP⟩ := up
            have k3 : k + 1 ≤ 4 := by omega
            clear big
            go_wp2_with (first | (go_at_call 70; refine (rdigit_any _ _).mono ?_; rintro e w' ⟨rfl, rfl⟩))
            go_round
            case rel => exact ⟨k + 1, 10 * n + ((s[k].toNat : Int) - 48), by omega, k3, by omega, up0, UP, dn, by go_num, by first | rfl | go_num, hvn.out.symm, by rw [hsn.out]; exact c1⟩
            case measure => simp [intOf]; omega
      · have hx := allB_all dgB s k (by omega)
        rw [hA.out] at hx
        have N : Hid (isNum s.data.toList = true) := ISN.out (by omega) hx.symm
        have NV : Hid (numV s.data.toList = n) := by
          unfold numV; rw [if_pos N.out, hV.out, List.take_of_length_le (by rw [len_eq]; omega)]; exact rfl
        clear hx
        go_wp2_with (first | (go_at_call 70; refine (rdigit_any _ _).mono ?_; rintro e w' ⟨rfl, rfl⟩))
        go_ret2
        have V : Value.tuple #[.int .i64 n, .bool true] = Value.tuple #[.int .i64 (numV s.data.toList), .bool (isNum s.data.toList)] := by rw [N.out, NV.out]
        exact ⟨congrArg Ending.returned V, rfl⟩
end TermD
end Go.Proofs.YtihbnonbhelbmaaGreatDoor
