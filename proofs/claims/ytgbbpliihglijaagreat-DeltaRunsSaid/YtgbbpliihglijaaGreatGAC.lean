/- Texts laid together: TermD; TermV. Their own heads stand before each. -/
import Derived.Test.YtgbbpliihglijaaGreatGAB
/- The contracts of Number, of the code and of the reference. Condition: the string's length. -/
namespace Go.Proofs.YtgbbpliihglijaaGreat
open Go Go.RowKit
namespace TermD
open Kit LexM TermA
set_option maxHeartbeats 3200000 in
theorem num_any (s : ByteArray) (w : World) (hs : s.size ≤ 9223372036854775807) :
    Calls Tryz.prog 90 #[.string s] w fun e w' => e = .returned (.tuple #[.int .i64 (numV s.data.toList), .bool (isNum s.data.toList)]) ∧ w = w' := by
  have E := Lib.hid (ByteArray.toList_eq s)
  have FAIL : Hid (isNum s.data.toList = false → Value.tuple #[.int .i64 0, .bool false] = Value.tuple #[.int .i64 (numV s.data.toList), .bool (isNum s.data.toList)]) := by
    intro h; unfold numV; rw [h]; rfl
  have hl := Lib.hid (len_eq s)
  by_cases h0 : s.size < 1
  · have hz : s.data.toList = [] := by apply List.eq_nil_of_length_eq_zero; rw [len_eq]; omega
    have H : Hid (isNum s.data.toList = false) := by rw [hz]; exact rfl
    have q2 : s.toList = [] := by rw [E.out, hz]
    clear hz
    go_enter Tryz.func90, Tryz.ntmps90
    go_wp2_with (first | (go_at_call 73; refine (digit_any _ _).mono ?_; rintro e w' ⟨rfl, rfl⟩))
    go_ret2
    exact ⟨congrArg Ending.returned (FAIL.out H.out), rfl⟩
  have hnn : s.toList ≠ [] := by
    rw [E.out]; intro hx; have := hl.out; rw [hx] at this; simp at this; omega
  have q1 : (s.toList == []) = false := by simpa using hnn
  have q2 : s.toList.isEmpty = false := by simpa using hnn
  have hp : 0 < s.size := by omega
  have hh := headB_eq (fun n => n == 48) s hp
  cases h2 : lead s.data.toList
  case true =>
    have H : Hid (isNum s.data.toList = false) := by
      unfold isNum; rw [h2, Bool.not_true, Bool.and_false]; exact rfl
    have g1 : 1 < s.size ∧ ((s[0].toNat : Int) == 48) = true := by
      unfold lead at h2; rw [hh, len_eq] at h2; simpa using h2
    obtain ⟨g1, g2⟩ := g1
    clear hh h2
    go_enter Tryz.func90, Tryz.ntmps90
    go_wp2_with (first | (go_at_call 73; refine (digit_any _ _).mono ?_; rintro e w' ⟨rfl, rfl⟩))
    go_ret2
    exact ⟨congrArg Ending.returned (FAIL.out H.out), rfl⟩
  have g : s.size ≤ 1 ∨ ((s[0].toNat : Int) == 48) = false := by
    by_cases c : s.size ≤ 1
    · exact Or.inl c
    · right
      unfold lead at h2; rw [hh, len_eq, decide_eq_true (by omega)] at h2; simpa using h2
  have H4 := Lib.hid h2
  have HG : Hid (1 < s.size → (s[0].toNat : Int) ≠ 48) := by
    intro h; rcases g with g | g
    · omega
    · simpa using g
  clear hh h2
  have ISN : Hid (s.size ≤ 4 → allB dgB s.data.toList = true → isNum s.data.toList = true) := by
    intro a b; unfold isNum; rw [b, H4.out, decide_eq_true (by rw [len_eq]; omega), decide_eq_true (by rw [len_eq]; omega)]; rfl
  have NOTN : Hid (4 < s.size ∨ allB dgB s.data.toList = false → isNum s.data.toList = false) := by
    intro a; unfold isNum; rcases a with a | a
    · rw [decide_eq_false (p := s.data.toList.length ≤ 4) (by rw [len_eq]; omega)]; simp
    · rw [a, Bool.and_false]
  have three : (((s[0].toNat : Int) == 48) = false ∧ 1 < s.size) ∨ (((s[0].toNat : Int) == 48) = false ∧ s.size ≤ 1) ∨ (((s[0].toNat : Int) == 48) = true ∧ s.size ≤ 1) := by
    rcases g with g | g
    · cases c : ((s[0].toNat : Int) == 48)
      · exact Or.inr (Or.inl ⟨rfl, g⟩)
      · exact Or.inr (Or.inr ⟨rfl, g⟩)
    · by_cases c : s.size ≤ 1
      · exact Or.inr (Or.inl ⟨g, c⟩)
      · exact Or.inl ⟨g, by omega⟩
  clear g
  rcases three with ⟨g1, g2⟩ | ⟨g1, g2⟩ | ⟨g1, g2⟩
  all_goals
    go_enter Tryz.func90, Tryz.ntmps90
    go_wp2_with (first | (go_at_call 73; refine (digit_any _ _).mono ?_; rintro e w' ⟨rfl, rfl⟩))
    clear g1
    go_loop [4, 20] (fun t i => ∃ (k : Nat) (n : Int), k ≤ s.size ∧ k ≤ 4 ∧ 0 ≤ n ∧ n ≤ 9999 ∧ Hid ((k = 0 → n = 0) ∧ (k = 1 → n ≤ 9) ∧ (k = 2 → n ≤ 99) ∧ (k = 3 → n ≤ 999)) ∧ Hid (1 < s.size → (k = 1 → 1 ≤ n) ∧ (k = 2 → 10 ≤ n) ∧ (k = 3 → 100 ≤ n) ∧ (k = 4 → 1000 ≤ n)) ∧ i = .int .i64 k ∧ t = .int .i64 n ∧ Hid (n = valL (s.data.toList.take k)) ∧ Hid (allB dgB (s.data.toList.take k) = true)) (fun _ i => s.size - (intOf i).toNat)
    case atStart => exact ⟨0, 0, Nat.zero_le _, by omega, by omega, by omega, Lib.hid ⟨by omega, by omega, by omega, by omega⟩, Lib.hid (fun _ => ⟨by omega, by omega, by omega, by omega⟩), rfl, rfl, Lib.hid rfl, Lib.hid rfl⟩
    case round =>
      obtain ⟨k, n, hk, hk4, hn0, hn1, U, HL, rfl, rfl, hV, hA⟩ := hrel
      by_cases hlt : k < s.size
      · have hsn : Hid (allB dgB (s.data.toList.take (k + 1)) = dgB s[k].toNat) := by
          rw [take_snoc s k hlt, allB_snoc, hA.out]; exact rfl
        have hvn : Hid (valL (s.data.toList.take (k + 1)) = 10 * n + ((s[k].toNat : Int) - 48)) := by
          rw [take_snoc s k hlt, valL_snoc, ← hV.out]; exact rfl
        have hno := Lib.hid (allB_no dgB s k hlt)
        have hz : Hid (k = 0 → 1 < s.size → (s[k].toNat : Int) ≠ 48) := by
          intro h; subst h; exact HG.out
        cases c1 : dgB s[k].toNat
        · have N : Hid (isNum s.data.toList = false) := NOTN.out (Or.inr (hno.out c1))
          go_wp2_with (first | (go_at_call 73; refine (digit_any _ _).mono ?_; rintro e w' ⟨rfl, rfl⟩))
          go_ret2
          exact ⟨congrArg Ending.returned (FAIL.out N.out), rfl⟩
        · have hd : 48 ≤ (s[k].toNat : Int) ∧ (s[k].toNat : Int) ≤ 57 := by simpa [dgB] using c1
          have hd1 := hd.1
          have hd2 := hd.2
          clear hd
          by_cases big : k = 4
          · have h1 : 1000 ≤ n := (HL.out (by omega)).2.2.2 big
            have N : Hid (isNum s.data.toList = false) := NOTN.out (Or.inl (by omega))
            clear big
            go_wp2_with (first | (go_at_call 73; refine (digit_any _ _).mono ?_; rintro e w' ⟨rfl, rfl⟩))
            go_ret2
            exact ⟨congrArg Ending.returned (FAIL.out N.out), rfl⟩
          · have up : 10 * n + ((s[k].toNat : Int) - 48) ≤ 9999 ∧ Hid ((k + 1 = 0 → 10 * n + ((s[k].toNat : Int) - 48) = 0) ∧ (k + 1 = 1 → 10 * n + ((s[k].toNat : Int) - 48) ≤ 9) ∧ (k + 1 = 2 → 10 * n + ((s[k].toNat : Int) - 48) ≤ 99) ∧ (k + 1 = 3 → 10 * n + ((s[k].toNat : Int) - 48) ≤ 999)) := by
              unfold Hid
              obtain ⟨a, b, c, d⟩ := U.out
              rcases (by omega : k = 0 ∨ k = 1 ∨ k = 2 ∨ k = 3) with rfl | rfl | rfl | rfl
              · have := a rfl; omega
              · have := b rfl; omega
              · have := c rfl; omega
              · have := d rfl; omega
            have dn : Hid (1 < s.size → (k + 1 = 1 → 1 ≤ 10 * n + ((s[k].toNat : Int) - 48)) ∧ (k + 1 = 2 → 10 ≤ 10 * n + ((s[k].toNat : Int) - 48)) ∧ (k + 1 = 3 → 100 ≤ 10 * n + ((s[k].toNat : Int) - 48)) ∧ (k + 1 = 4 → 1000 ≤ 10 * n + ((s[k].toNat : Int) - 48))) := by
              intro h
              obtain ⟨a, b, c, d⟩ := HL.out h
              rcases (by omega : k = 0 ∨ k = 1 ∨ k = 2 ∨ k = 3) with rfl | rfl | rfl | rfl
              · have := hz.out rfl h; omega
              · have := a rfl; omega
              · have := b rfl; omega
              · have := c rfl; omega
            obtain ⟨up0, UP⟩ := up
            have k3 : k + 1 ≤ 4 := by omega
            clear big
            go_wp2_with (first | (go_at_call 73; refine (digit_any _ _).mono ?_; rintro e w' ⟨rfl, rfl⟩))
            go_round
            case rel => exact ⟨k + 1, 10 * n + ((s[k].toNat : Int) - 48), by omega, k3, by omega, up0, UP, dn, by go_num, by first | rfl | go_num, hvn.out.symm, by rw [hsn.out]; exact c1⟩
            case measure => simp [intOf]; omega
      · have hx := allB_all dgB s k (by omega)
        rw [hA.out] at hx
        have N : Hid (isNum s.data.toList = true) := ISN.out (by omega) hx.symm
        have NV : Hid (numV s.data.toList = n) := by
          unfold numV; rw [if_pos N.out, hV.out, List.take_of_length_le (by rw [len_eq]; omega)]; exact rfl
        clear hx
        go_wp2_with (first | (go_at_call 73; refine (digit_any _ _).mono ?_; rintro e w' ⟨rfl, rfl⟩))
        go_ret2
        have V : Value.tuple #[.int .i64 n, .bool true] = Value.tuple #[.int .i64 (numV s.data.toList), .bool (isNum s.data.toList)] := by rw [N.out, NV.out]
        exact ⟨congrArg Ending.returned V, rfl⟩
set_option maxHeartbeats 3200000 in
theorem rnum_any (s : ByteArray) (w : World) (hs : s.size ≤ 9223372036854775807) :
    Calls Tryz.prog 108 #[.string s] w fun e w' => e = .returned (.tuple #[.int .i64 (numV s.data.toList), .bool (isNum s.data.toList)]) ∧ w = w' := by
  have E := Lib.hid (ByteArray.toList_eq s)
  have FAIL : Hid (isNum s.data.toList = false → Value.tuple #[.int .i64 0, .bool false] = Value.tuple #[.int .i64 (numV s.data.toList), .bool (isNum s.data.toList)]) := by
    intro h; unfold numV; rw [h]; rfl
  have hl := Lib.hid (len_eq s)
  by_cases h0 : s.size < 1
  · have hz : s.data.toList = [] := by apply List.eq_nil_of_length_eq_zero; rw [len_eq]; omega
    have H : Hid (isNum s.data.toList = false) := by rw [hz]; exact rfl
    have q2 : s.toList = [] := by rw [E.out, hz]
    clear hz
    go_enter Tryz.func108, Tryz.ntmps108
    go_wp2_with (first | (go_at_call 94; refine (rdigit_any _ _).mono ?_; rintro e w' ⟨rfl, rfl⟩))
    go_ret2
    exact ⟨congrArg Ending.returned (FAIL.out H.out), rfl⟩
  have hnn : s.toList ≠ [] := by
    rw [E.out]; intro hx; have := hl.out; rw [hx] at this; simp at this; omega
  have q1 : (s.toList == []) = false := by simpa using hnn
  have q2 : s.toList.isEmpty = false := by simpa using hnn
  have hp : 0 < s.size := by omega
  by_cases h4 : 4 < s.size
  · have H : Hid (isNum s.data.toList = false) := Lib.hid (by
      unfold isNum; rw [decide_eq_false (p := s.data.toList.length ≤ 4) (by rw [len_eq]; omega)]; simp)
    go_enter Tryz.func108, Tryz.ntmps108
    go_wp2_with (first | (go_at_call 94; refine (rdigit_any _ _).mono ?_; rintro e w' ⟨rfl, rfl⟩))
    go_ret2
    exact ⟨congrArg Ending.returned (FAIL.out H.out), rfl⟩
  have hh := headB_eq (fun n => n == 48) s hp
  cases h2 : lead s.data.toList
  case true =>
    have H : Hid (isNum s.data.toList = false) := by
      unfold isNum; rw [h2, Bool.not_true, Bool.and_false]; exact rfl
    have g1 : 1 < s.size ∧ ((s[0].toNat : Int) == 48) = true := by
      unfold lead at h2; rw [hh, len_eq] at h2; simpa using h2
    obtain ⟨g1, g2⟩ := g1
    clear hh h2
    go_enter Tryz.func108, Tryz.ntmps108
    go_wp2_with (first | (go_at_call 94; refine (rdigit_any _ _).mono ?_; rintro e w' ⟨rfl, rfl⟩))
    go_ret2
    exact ⟨congrArg Ending.returned (FAIL.out H.out), rfl⟩
  have g : s.size ≤ 1 ∨ ((s[0].toNat : Int) == 48) = false := by
    by_cases c : s.size ≤ 1
    · exact Or.inl c
    · right
      unfold lead at h2; rw [hh, len_eq, decide_eq_true (by omega)] at h2; simpa using h2
  have H4 := Lib.hid h2
  have HG : Hid (1 < s.size → (s[0].toNat : Int) ≠ 48) := by
    intro h; rcases g with g | g
    · omega
    · simpa using g
  clear hh h2
  have ISN : Hid (s.size ≤ 4 → allB dgB s.data.toList = true → isNum s.data.toList = true) := by
    intro a b; unfold isNum; rw [b, H4.out, decide_eq_true (by rw [len_eq]; omega), decide_eq_true (by rw [len_eq]; omega)]; rfl
  have NOTN : Hid (4 < s.size ∨ allB dgB s.data.toList = false → isNum s.data.toList = false) := by
    intro a; unfold isNum; rcases a with a | a
    · rw [decide_eq_false (p := s.data.toList.length ≤ 4) (by rw [len_eq]; omega)]; simp
    · rw [a, Bool.and_false]
  have three : (((s[0].toNat : Int) == 48) = false ∧ 1 < s.size) ∨ (((s[0].toNat : Int) == 48) = false ∧ s.size ≤ 1) ∨ (((s[0].toNat : Int) == 48) = true ∧ s.size ≤ 1) := by
    rcases g with g | g
    · cases c : ((s[0].toNat : Int) == 48)
      · exact Or.inr (Or.inl ⟨rfl, g⟩)
      · exact Or.inr (Or.inr ⟨rfl, g⟩)
    · by_cases c : s.size ≤ 1
      · exact Or.inr (Or.inl ⟨g, c⟩)
      · exact Or.inl ⟨g, by omega⟩
  clear g
  rcases three with ⟨g1, g2⟩ | ⟨g1, g2⟩ | ⟨g1, g2⟩
  all_goals
    go_enter Tryz.func108, Tryz.ntmps108
    go_wp2_with (first | (go_at_call 94; refine (rdigit_any _ _).mono ?_; rintro e w' ⟨rfl, rfl⟩))
    clear g1
    go_loop [4, 26] (fun t i => ∃ (k : Nat) (n : Int), k ≤ s.size ∧ k ≤ 4 ∧ 0 ≤ n ∧ n ≤ 9999 ∧ Hid ((k = 0 → n = 0) ∧ (k = 1 → n ≤ 9) ∧ (k = 2 → n ≤ 99) ∧ (k = 3 → n ≤ 999)) ∧ Hid (1 < s.size → (k = 1 → 1 ≤ n) ∧ (k = 2 → 10 ≤ n) ∧ (k = 3 → 100 ≤ n) ∧ (k = 4 → 1000 ≤ n)) ∧ i = .int .i64 k ∧ t = .int .i64 n ∧ Hid (n = valL (s.data.toList.take k)) ∧ Hid (allB dgB (s.data.toList.take k) = true)) (fun _ i => s.size - (intOf i).toNat)
    case atStart => exact ⟨0, 0, Nat.zero_le _, by omega, by omega, by omega, Lib.hid ⟨by omega, by omega, by omega, by omega⟩, Lib.hid (fun _ => ⟨by omega, by omega, by omega, by omega⟩), rfl, rfl, Lib.hid rfl, Lib.hid rfl⟩
    case round =>
      obtain ⟨k, n, hk, hk4, hn0, hn1, U, HL, rfl, rfl, hV, hA⟩ := hrel
      by_cases hlt : k < s.size
      · have hsn : Hid (allB dgB (s.data.toList.take (k + 1)) = dgB s[k].toNat) := by
          rw [take_snoc s k hlt, allB_snoc, hA.out]; exact rfl
        have hvn : Hid (valL (s.data.toList.take (k + 1)) = 10 * n + ((s[k].toNat : Int) - 48)) := by
          rw [take_snoc s k hlt, valL_snoc, ← hV.out]; exact rfl
        have hno := Lib.hid (allB_no dgB s k hlt)
        have hz : Hid (k = 0 → 1 < s.size → (s[k].toNat : Int) ≠ 48) := by
          intro h; subst h; exact HG.out
        cases c1 : dgB s[k].toNat
        · have N : Hid (isNum s.data.toList = false) := NOTN.out (Or.inr (hno.out c1))
          go_wp2_with (first | (go_at_call 94; refine (rdigit_any _ _).mono ?_; rintro e w' ⟨rfl, rfl⟩))
          go_ret2
          exact ⟨congrArg Ending.returned (FAIL.out N.out), rfl⟩
        · have hd : 48 ≤ (s[k].toNat : Int) ∧ (s[k].toNat : Int) ≤ 57 := by simpa [dgB] using c1
          have hd1 := hd.1
          have hd2 := hd.2
          clear hd
          by_cases big : k = 4
          · omega
          · have up : 10 * n + ((s[k].toNat : Int) - 48) ≤ 9999 ∧ Hid ((k + 1 = 0 → 10 * n + ((s[k].toNat : Int) - 48) = 0) ∧ (k + 1 = 1 → 10 * n + ((s[k].toNat : Int) - 48) ≤ 9) ∧ (k + 1 = 2 → 10 * n + ((s[k].toNat : Int) - 48) ≤ 99) ∧ (k + 1 = 3 → 10 * n + ((s[k].toNat : Int) - 48) ≤ 999)) := by
              unfold Hid
              obtain ⟨a, b, c, d⟩ := U.out
              rcases (by omega : k = 0 ∨ k = 1 ∨ k = 2 ∨ k = 3) with rfl | rfl | rfl | rfl
              · have := a rfl; omega
              · have := b rfl; omega
              · have := c rfl; omega
              · have := d rfl; omega
            have dn : Hid (1 < s.size → (k + 1 = 1 → 1 ≤ 10 * n + ((s[k].toNat : Int) - 48)) ∧ (k + 1 = 2 → 10 ≤ 10 * n + ((s[k].toNat : Int) - 48)) ∧ (k + 1 = 3 → 100 ≤ 10 * n + ((s[k].toNat : Int) - 48)) ∧ (k + 1 = 4 → 1000 ≤ 10 * n + ((s[k].toNat : Int) - 48))) := by
              intro h
              obtain ⟨a, b, c, d⟩ := HL.out h
              rcases (by omega : k = 0 ∨ k = 1 ∨ k = 2 ∨ k = 3) with rfl | rfl | rfl | rfl
              · have := hz.out rfl h; omega
              · have := a rfl; omega
              · have := b rfl; omega
              · have := c rfl; omega
            obtain ⟨up0, UP⟩ := up
            have k3 : k + 1 ≤ 4 := by omega
            clear big
            go_wp2_with (first | (go_at_call 94; refine (rdigit_any _ _).mono ?_; rintro e w' ⟨rfl, rfl⟩))
            go_round
            case rel => exact ⟨k + 1, 10 * n + ((s[k].toNat : Int) - 48), by omega, k3, by omega, up0, UP, dn, by go_num, by first | rfl | go_num, hvn.out.symm, by rw [hsn.out]; exact c1⟩
            case measure => simp [intOf]; omega
      · have hx := allB_all dgB s k (by omega)
        rw [hA.out] at hx
        have N : Hid (isNum s.data.toList = true) := ISN.out (by omega) hx.symm
        have NV : Hid (numV s.data.toList = n) := by
          unfold numV; rw [if_pos N.out, hV.out, List.take_of_length_le (by rw [len_eq]; omega)]; exact rfl
        clear hx
        go_wp2_with (first | (go_at_call 94; refine (rdigit_any _ _).mono ?_; rintro e w' ⟨rfl, rfl⟩))
        go_ret2
        have V : Value.tuple #[.int .i64 n, .bool true] = Value.tuple #[.int .i64 (numV s.data.toList), .bool (isNum s.data.toList)] := by rw [N.out, NV.out]
        exact ⟨congrArg Ending.returned V, rfl⟩
end TermD
end Go.Proofs.YtgbbpliihglijaaGreat
/- Validity of terms, of the code and of the reference. Condition: names' lengths fit an int. -/
namespace Go.Proofs.YtgbbpliihglijaaGreat
open Go Go.RowKit
namespace TermV
open LexM TermM TermI Kit TermN TermA TermB TermC TermD
theorem con_any (s : ByteArray) (w : World) (hs : s.size ≤ 9223372036854775807) :
    Calls Tryz.prog 101 #[.string s] w fun e w' => e = .returned (.bool (conB s)) ∧ w = w' := by
  have C1 := Lib.hid (fun w => num_any s w hs)
  have C2 := Lib.hid (fun w => name_any s w hs)
  have HF : Hid (conB s = (isNum s.data.toList || nameL s.data.toList)) := rfl
  generalize conB s = R at *
  generalize isNum s.data.toList = a at *
  generalize nameL s.data.toList = b at *
  generalize numV s.data.toList = v at *
  cases a
  all_goals
    go_enter Tryz.func101, Tryz.ntmps101
    go_wp2_with (first | (go_at_call 90; refine (C1.out _).mono ?_; rintro e w' ⟨rfl, rfl⟩) | (go_at_call 56; refine (C2.out _).mono ?_; rintro e w' ⟨rfl, rfl⟩))
    go_ret
    exact ⟨ret_bool (by rw [HF.out]; simp), rfl⟩
theorem risnum_any (s : ByteArray) (w : World) (hs : s.size ≤ 9223372036854775807) :
    Calls Tryz.prog 106 #[.string s] w fun e w' => e = .returned (.bool (numB s)) ∧ w = w' := by
  have C1 := Lib.hid (fun w => rnum_any s w hs)
  have HF : Hid (numB s = isNum s.data.toList) := rfl
  generalize numB s = R at *
  generalize isNum s.data.toList = a at *
  generalize numV s.data.toList = v at *
  go_enter Tryz.func106, Tryz.ntmps106
  go_wp2_with (go_at_call 108; refine (C1.out _).mono ?_; rintro e w' ⟨rfl, rfl⟩)
  go_ret
  exact ⟨ret_bool HF.out.symm, rfl⟩
theorem rcon_any (n : ByteArray) (p : Option Addr) (m c : Nat) (w : World) (hs : n.size ≤ 9223372036854775807) :
    Calls Tryz.prog 104 #[.agg #[.string n, .slice p m c]] w fun e w' => e = .returned (.bool (decide (m = 0) && conB n)) ∧ Gr w w' := by
  have C1 := Lib.hid (fun w => risnum_any n w hs)
  have C2 := Lib.hid (fun w => rname_any n w hs)
  have HF : Hid ((decide (m = 0) && conB n) = (decide (m = 0) && (nameL n.data.toList || numB n))) := by unfold conB nameB; rw [Bool.or_comm]; exact rfl
  generalize (decide (m = 0) && conB n) = R at *
  generalize nameL n.data.toList = a at *
  generalize numB n = b at *
  by_cases h0 : m = 0
  · subst h0
    cases a
    all_goals
      go_enter Tryz.func104, Tryz.ntmps104
      go_wp2_with (first | (go_at_call 106; refine (C1.out _).mono ?_; rintro e w' ⟨rfl, rfl⟩) | (go_at_call 82; refine (C2.out _).mono ?_; rintro e w' ⟨rfl, rfl⟩))
      go_ret
      exact ⟨ret_bool (by rw [HF.out]; simp), Gr.alloc _ _⟩
  · have h0' : ((m : Int) == 0) = false := by simpa using h0
    go_enter Tryz.func104, Tryz.ntmps104
    go_wp2_with fail
    go_ret
    exact ⟨ret_bool (by rw [HF.out, decide_eq_false h0]; rfl), Gr.alloc _ _⟩
theorem risvar_any (n : ByteArray) (p : Option Addr) (m c : Nat) (w : World) (hs : n.size ≤ 9223372036854775807) :
    Calls Tryz.prog 105 #[.agg #[.string n, .slice p m c]] w fun e w' => e = .returned (.bool (decide (m = 0) && varB n)) ∧ Gr w w' := by
  have C1 := Lib.hid (fun w => rvar_any n w hs)
  have HF : Hid ((decide (m = 0) && varB n) = (decide (m = 0) && varL n.data.toList)) := rfl
  generalize (decide (m = 0) && varB n) = R at *
  generalize varL n.data.toList = a at *
  by_cases h0 : m = 0
  · subst h0
    go_enter Tryz.func105, Tryz.ntmps105
    go_wp2_with (go_at_call 107; refine (C1.out _).mono ?_; rintro e w' ⟨rfl, rfl⟩)
    go_ret
    exact ⟨ret_bool (by rw [HF.out]; simp), Gr.alloc _ _⟩
  · have h0' : ((m : Int) == 0) = false := by simpa using h0
    go_enter Tryz.func105, Tryz.ntmps105
    go_wp2_with fail
    go_ret
    exact ⟨ret_bool (by rw [HF.out, decide_eq_false h0]; rfl), Gr.alloc _ _⟩
set_option maxRecDepth 100000 in
set_option maxHeartbeats 3200000 in
theorem within_any (D : Nat) : ∀ (t : Tm) (B : Nat) (w : World) (sv : Value), D ≤ 40 → B ≤ w.heap.size → t.nm.size ≤ maxLen → SlIn (· < B) w t.args sv →
    Calls Tryz.prog 85 #[.agg #[.string t.nm, sv], .int .i64 D] w fun e w' => e = .returned (.bool (validT false D t)) ∧ Gr w w' := by
  induction D with
  | zero =>
    intro t B w sv hD hB _ h
    obtain ⟨p, c, rfl, hn, hc, hm, hR⟩ := h.row
    clear hR h
    go_enter Tryz.func85, Tryz.ntmps85
    go_wp2_with fail
    go_ret
    exact ⟨rfl, Gr.alloc _ _⟩
  | succ D ih =>
    rintro ⟨n, l⟩ B w sv hD hB hs h
    dsimp only [Tm.args, Tm.nm] at h hs ⊢
    have hs : n.size ≤ 9223372036854775807 := hs
    obtain ⟨p, c, rfl, hn, hc, hm, hR⟩ := h.row
    obtain ⟨E, hE⟩ : ∃ E : Int, E = ((D + 1 : Nat) : Int) := ⟨_, rfl⟩
    rw [← hE]
    have hE1 : 1 ≤ E := by omega
    have hE2 : E ≤ 40 := by omega
    have hE3 : (D : Int) = E - 1 := by omega
    have IH : Hid (∀ (t : Tm) (w : World) (v : Value), B ≤ w.heap.size → t.nm.size ≤ maxLen → SlIn (· < B) w t.args v → Calls Tryz.prog 85 #[.agg #[.string t.nm, v], .int .i64 (E - 1)] w fun e w' => e = .returned (.bool (validT false D t)) ∧ Gr w w') :=
      Lib.hid (fun t w v hB hs h => by rw [← hE3]; exact ih t B w v (by omega) hB hs h)
    clear hE3 hE ih
    unfold maxLen at hm
    by_cases h0 : l = []
    · subst h0
      dsimp only [List.length_nil] at hm hc ⊢
      clear hR h hn
      have K1 := Lib.hid (fun w => con_any n w hs)
      have K2 := Lib.hid (fun w => var_any n w hs)
      have HF : Hid (validT false (D + 1) (.mk n []) = (conB n || varL n.data.toList)) := rfl
      generalize validT false (D + 1) (.mk n []) = R at *
      generalize conB n = a at *
      generalize varL n.data.toList = b at *
      cases a
      all_goals
        go_enter Tryz.func85, Tryz.ntmps85
        go_wp2_with (first | (go_at_call 101; refine (K1.out _).mono ?_; rintro e w' ⟨rfl, rfl⟩) | (go_at_call 87; refine (K2.out _).mono ?_; rintro e w' ⟨rfl, rfl⟩))
        go_ret
        exact ⟨ret_bool (by rw [HF.out]; simp), Gr.alloc _ _⟩
    · have hpos : 0 < l.length := List.length_pos_iff.2 h0
      have hlf : ((l.length : Int) == 0) = false := by simp [h0]
      have HF : Hid (validT false (D + 1) (.mk n l) = (decide (l.length ≤ 4) && nameB n && l.all (validT false D))) := by
        simp only [validT]; rw [if_neg (by simpa using h0)]; exact rfl
      have NX : Hid (∀ k t, l[k]? = some t → ((l.take (k + 1)).all (validT false D)) = (((l.take k).all (validT false D)) && validT false D t)) := Lib.hid (fun k t h => by
        rw [take_get l k t h, List.all_append]; simp)
      have NO : Hid (∀ k t, l[k]? = some t → validT false D t = false → (l.all (validT false D)) = false) := Lib.hid (fun k t h1 h2 => by
        rw [List.all_eq_false]; exact ⟨t, List.mem_of_getElem? h1, by simpa using h2⟩)
      have FL : Hid (l.take l.length = l) := Lib.hid (by simp)
      have K2 := Lib.hid (fun w => name_any n w hs)
      have HNM : Hid (nameB n = nameL n.data.toList) := rfl
      generalize validT false (D + 1) (.mk n l) = R at *
      generalize nameB n = nb at *
      have HB := Lib.hid hB
      have HR := Lib.hid hR
      generalize hm' : l.length = m at *
      have HM := Lib.hid hm'
      clear hR h hm' hn h0
      by_cases h4 : 4 < m
      · have HF1 : Hid (R = false) := by rw [HF.out, decide_eq_false (by omega)]; exact rfl
        clear HF hpos
        cases hnb : nameL n.data.toList
        all_goals
          go_enter Tryz.func85, Tryz.ntmps85
          go_wp2_with (go_at_call 56; refine (K2.out _).mono ?_; rintro e w' ⟨rfl, rfl⟩)
          go_ret
          exact ⟨ret_bool HF1.out.symm, Gr.alloc _ _⟩
      have h4' : m ≤ 4 := by omega
      cases hnb : nameL n.data.toList
      · have HF1 : Hid (R = false) := by rw [HF.out, HNM.out, hnb]; simp; exact Lib.hid trivial
        clear HF hpos
        go_enter Tryz.func85, Tryz.ntmps85
        go_wp2_with (go_at_call 56; refine (K2.out _).mono ?_; rintro e w' ⟨rfl, rfl⟩)
        go_ret
        exact ⟨ret_bool HF1.out.symm, Gr.alloc _ _⟩
      have HF1 : Hid (R = l.all (validT false D)) := by rw [HF.out, HNM.out, hnb, decide_eq_true (by omega)]; exact rfl
      clear HF hpos h4
      go_enter Tryz.func85, Tryz.ntmps85
      go_wp2_with (go_at_call 56; refine (K2.out _).mono ?_; rintro e w' ⟨rfl, rfl⟩)
      go_loopw [34] (fun i wr => ∃ k : Nat, k ≤ m ∧ i = .int .i64 k ∧ Hid ((l.take k).all (validT false D) = true) ∧ Hid (Gr (w.alloc (.cells #[.string n, .slice p m c] 58)) wr)) (fun i _ => m - (intOf i).toNat)
      case atStart => exact ⟨0, Nat.zero_le _, rfl, Lib.hid rfl, Lib.hid (Gr.refl _)⟩
      case round =>
        obtain ⟨k, hk, rfl, hA, hg⟩ := hrel
        by_cases hlt : k < m
        · obtain ⟨t, b, o, q, d, ht, rfl, hb, c1, c2, hs', hts⟩ := (HR.out.gr ((Gr.alloc _ _).trans hg.out) HB.out) k (by rw [HM.out]; exact hlt)
          have HS := Lib.hid hs'
          have HTS := Lib.hid hts
          have N1 := Lib.hid (NX.out k t ht)
          have N2 := Lib.hid (NO.out k t ht)
          clear ht hs' hts
          go_wp2_with fail
          refine (IH.out t _ _ (Nat.le_trans HB.out ((Gr.alloc _ _).trans (hg.out.trans (Gr.alloc _ _))).size) HTS.out (HS.out.gr (Gr.alloc _ _) (Nat.le_trans HB.out ((Gr.alloc _ _).trans hg.out).size))).mono ?_
          rintro e w' ⟨rfl, g2⟩
          have hg2 := Lib.hid ((hg.out.trans (Gr.alloc _ _)).trans g2)
          clear g2
          cases hdc : validT false D t
          · have HF2 := Lib.hid (N2.out hdc)
            go_wp2_with fail
            go_ret
            exact ⟨ret_bool (by rw [HF1.out, HF2.out]), (Gr.alloc _ _).trans hg2.out⟩
          · have HA2 : Hid ((l.take (k + 1)).all (validT false D) = true) := by rw [N1.out, hA.out, hdc]; exact rfl
            go_wp2_with fail
            go_roundw
            case rel => exact ⟨k + 1, by omega, by go_num, HA2, hg2⟩
            case measure => simp [intOf]; omega
        · obtain rfl : k = m := by omega
          have HF2 : Hid (R = true) := by rw [HF1.out, ← hA.out, FL.out]; exact rfl
          go_wp2_with fail
          go_ret
          exact ⟨ret_bool HF2.out.symm, (Gr.alloc _ _).trans hg.out⟩
set_option maxRecDepth 100000 in
set_option maxHeartbeats 3200000 in
theorem rwithin_any (g : Bool) (D : Nat) : ∀ (t : Tm) (B : Nat) (w : World) (sv : Value), D ≤ 40 → B ≤ w.heap.size → t.nm.size ≤ maxLen → SlIn (· < B) w t.args sv →
    Calls Tryz.prog 95 #[.agg #[.string t.nm, sv], .int .i64 D, .bool g] w fun e w' => e = .returned (.bool (validT g D t)) ∧ Gr w w' := by
  induction D with
  | zero =>
    intro t B w sv hD hB _ h
    obtain ⟨p, c, rfl, hn, hc, hm, hR⟩ := h.row
    clear hR h
    go_enter Tryz.func95, Tryz.ntmps95
    go_wp2_with fail
    go_ret
    exact ⟨rfl, Gr.alloc _ _⟩
  | succ D ih =>
    rintro ⟨n, l⟩ B w sv hD hB hs h
    dsimp only [Tm.args, Tm.nm] at h hs ⊢
    have hs : n.size ≤ 9223372036854775807 := hs
    obtain ⟨p, c, rfl, hn, hc, hm, hR⟩ := h.row
    obtain ⟨E, hE⟩ : ∃ E : Int, E = ((D + 1 : Nat) : Int) := ⟨_, rfl⟩
    rw [← hE]
    have hE1 : 1 ≤ E := by omega
    have hE2 : E ≤ 40 := by omega
    have hE3 : (D : Int) = E - 1 := by omega
    have IH : Hid (∀ (t : Tm) (w : World) (v : Value), B ≤ w.heap.size → t.nm.size ≤ maxLen → SlIn (· < B) w t.args v → Calls Tryz.prog 95 #[.agg #[.string t.nm, v], .int .i64 (E - 1), .bool g] w fun e w' => e = .returned (.bool (validT g D t)) ∧ Gr w w') :=
      Lib.hid (fun t w v hB hs h => by rw [← hE3]; exact ih t B w v (by omega) hB hs h)
    clear hE3 hE ih
    unfold maxLen at hm
    by_cases h0 : l = []
    · subst h0
      dsimp only [List.length_nil] at hm hc ⊢
      clear hR h hn
      have K1 := Lib.hid (fun w => rcon_any n p 0 c w hs)
      have K2 := Lib.hid (fun w => risvar_any n p 0 c w hs)
      have HF : Hid (validT g (D + 1) (.mk n []) = (conB n || (!g && varB n))) := rfl
      have e1 : (decide ((0 : Nat) = 0) && conB n) = conB n := by simp
      have e2 : (decide ((0 : Nat) = 0) && varB n) = varB n := by simp
      rw [e1] at K1
      rw [e2] at K2
      clear e1 e2
      generalize validT g (D + 1) (.mk n []) = R at *
      generalize conB n = a at *
      generalize varB n = b at *
      cases a <;> cases g
      all_goals
        go_enter Tryz.func95, Tryz.ntmps95
        go_wp2_with fail
        refine (K1.out _).mono ?_
        rintro e w1 ⟨rfl, g1⟩
        have hg1 := Lib.hid ((Gr.alloc _ _).trans g1)
        obtain ⟨b0, b1, _, _, hbl⟩ := (g1.has (Has.new w _ _)).two
        clear g1
        go_wp2_with fail
        first
          | (go_ret
             exact ⟨ret_bool (by rw [HF.out]; rfl), hg1.out⟩)
          | (refine (K2.out _).mono ?_
             rintro e w2 ⟨rfl, g2⟩
             have hg2 := Lib.hid (hg1.out.trans g2)
             clear g2
             go_wp2_with fail
             go_ret
             exact ⟨ret_bool (by rw [HF.out]; simp), hg2.out⟩)
    · have hpos : 0 < l.length := List.length_pos_iff.2 h0
      have hlf : ((l.length : Int) == 0) = false := by simp [h0]
      have HF : Hid (validT g (D + 1) (.mk n l) = (decide (l.length ≤ 4) && nameB n && l.all (validT g D))) := by
        simp only [validT]; rw [if_neg (by simpa using h0)]; exact rfl
      have NX : Hid (∀ k t, l[k]? = some t → ((l.take (k + 1)).all (validT g D)) = (((l.take k).all (validT g D)) && validT g D t)) := Lib.hid (fun k t h => by
        rw [take_get l k t h, List.all_append]; simp)
      have NO : Hid (∀ k t, l[k]? = some t → validT g D t = false → (l.all (validT g D)) = false) := Lib.hid (fun k t h1 h2 => by
        rw [List.all_eq_false]; exact ⟨t, List.mem_of_getElem? h1, by simpa using h2⟩)
      have FL : Hid (l.take l.length = l) := Lib.hid (by simp)
      have K2 := Lib.hid (fun w => rname_any n w hs)
      have HNM : Hid (nameB n = nameL n.data.toList) := rfl
      generalize validT g (D + 1) (.mk n l) = R at *
      generalize nameB n = nb at *
      have HB := Lib.hid hB
      have HR := Lib.hid hR
      generalize hm' : l.length = m at *
      have HM := Lib.hid hm'
      clear hR h hm' hn h0
      by_cases h4 : 4 < m
      · have HF1 : Hid (R = false) := by rw [HF.out, decide_eq_false (by omega)]; exact rfl
        clear HF hpos
        cases hnb : nameL n.data.toList
        all_goals
          go_enter Tryz.func95, Tryz.ntmps95
          go_wp2_with (go_at_call 82; refine (K2.out _).mono ?_; rintro e w' ⟨rfl, rfl⟩)
          go_ret
          exact ⟨ret_bool HF1.out.symm, Gr.alloc _ _⟩
      have h4' : m ≤ 4 := by omega
      cases hnb : nameL n.data.toList
      · have HF1 : Hid (R = false) := by rw [HF.out, HNM.out, hnb]; simp; exact Lib.hid trivial
        clear HF hpos
        go_enter Tryz.func95, Tryz.ntmps95
        go_wp2_with (go_at_call 82; refine (K2.out _).mono ?_; rintro e w' ⟨rfl, rfl⟩)
        go_ret
        exact ⟨ret_bool HF1.out.symm, Gr.alloc _ _⟩
      have HF1 : Hid (R = l.all (validT g D)) := by rw [HF.out, HNM.out, hnb, decide_eq_true (by omega)]; exact rfl
      clear HF hpos h4
      go_enter Tryz.func95, Tryz.ntmps95
      go_wp2_with (go_at_call 82; refine (K2.out _).mono ?_; rintro e w' ⟨rfl, rfl⟩)
      go_loopw [37] (fun i wr => ∃ k : Nat, k ≤ m ∧ i = .int .i64 k ∧ Hid ((l.take k).all (validT g D) = true) ∧ Hid (Gr (w.alloc (.cells #[.string n, .slice p m c] 58)) wr)) (fun i _ => m - (intOf i).toNat)
      case atStart => exact ⟨0, Nat.zero_le _, rfl, Lib.hid rfl, Lib.hid (Gr.refl _)⟩
      case round =>
        obtain ⟨k, hk, rfl, hA, hg⟩ := hrel
        by_cases hlt : k < m
        · obtain ⟨t, b, o, q, d, ht, rfl, hb, c1, c2, hs', hts⟩ := (HR.out.gr ((Gr.alloc _ _).trans hg.out) HB.out) k (by rw [HM.out]; exact hlt)
          obtain ⟨b0, b1, _, _, hbl⟩ := (hg.out.has (Has.new w _ _)).two
          have HS := Lib.hid hs'
          have HTS := Lib.hid hts
          have N1 := Lib.hid (NX.out k t ht)
          have N2 := Lib.hid (NO.out k t ht)
          clear ht hs' hts
          go_wp2_with fail
          refine (IH.out t _ _ (Nat.le_trans HB.out ((Gr.alloc _ _).trans (hg.out.trans (Gr.refl _))).size) HTS.out (HS.out.gr (Gr.refl _) (Nat.le_trans HB.out ((Gr.alloc _ _).trans hg.out).size))).mono ?_
          rintro e w' ⟨rfl, g2⟩
          have hg2 := Lib.hid ((hg.out.trans (Gr.refl _)).trans g2)
          clear g2
          cases hdc : validT g D t
          · have HF2 := Lib.hid (N2.out hdc)
            go_wp2_with fail
            go_ret
            exact ⟨ret_bool (by rw [HF1.out, HF2.out]), (Gr.alloc _ _).trans hg2.out⟩
          · have HA2 : Hid ((l.take (k + 1)).all (validT g D) = true) := by rw [N1.out, hA.out, hdc]; exact rfl
            go_wp2_with fail
            go_roundw
            case rel => exact ⟨k + 1, by omega, by go_num, HA2, hg2⟩
            case measure => simp [intOf]; omega
        · obtain rfl : k = m := by omega
          have HF2 : Hid (R = true) := by rw [HF1.out, ← hA.out, FL.out]; exact rfl
          go_wp2_with fail
          go_ret
          exact ⟨ret_bool HF2.out.symm, (Gr.alloc _ _).trans hg.out⟩
theorem valid_any (t : Tm) (B : Nat) (w : World) (sv : Value) (hB : B ≤ w.heap.size) (hs : t.nm.size ≤ maxLen) (h : SlIn (· < B) w t.args sv) :
    Calls Tryz.prog 74 #[.agg #[.string t.nm, sv]] w fun e w' => e = .returned (.bool (validT false 4 t)) ∧ Gr w w' := by
  obtain ⟨p, c, rfl, hn, hc, hm, hR⟩ := h.row
  have HC := Lib.hid (within_any 4 t B (w.alloc (.cells #[.string t.nm, .slice p t.args.length c] 58)) _ (by omega) (Nat.le_trans hB (Gr.alloc _ _).size) hs (h.gr (Gr.alloc _ _) hB))
  clear hR h hn
  generalize validT false 4 t = R at *
  go_enter Tryz.func74, Tryz.ntmps74
  go_wp2_with fail
  refine HC.out.mono ?_
  rintro e w' ⟨rfl, g2⟩
  have hg2 := Lib.hid ((Gr.alloc _ _).trans g2)
  clear g2
  go_wp2_with fail
  go_ret
  exact ⟨rfl, hg2.out⟩
theorem rground_any (t : Tm) (B : Nat) (w : World) (sv : Value) (hB : B ≤ w.heap.size) (hs : t.nm.size ≤ maxLen) (h : SlIn (· < B) w t.args sv) :
    Calls Tryz.prog 83 #[.agg #[.string t.nm, sv]] w fun e w' => e = .returned (.bool (validT true 4 t)) ∧ Gr w w' := by
  obtain ⟨p, c, rfl, hn, hc, hm, hR⟩ := h.row
  have HC := Lib.hid (rwithin_any true 4 t B (w.alloc (.cells #[.string t.nm, .slice p t.args.length c] 58)) _ (by omega) (Nat.le_trans hB (Gr.alloc _ _).size) hs (h.gr (Gr.alloc _ _) hB))
  clear hR h hn
  generalize validT true 4 t = R at *
  go_enter Tryz.func83, Tryz.ntmps83
  go_wp2_with fail
  refine HC.out.mono ?_
  rintro e w' ⟨rfl, g2⟩
  have hg2 := Lib.hid ((Gr.alloc _ _).trans g2)
  clear g2
  go_wp2_with fail
  go_ret
  exact ⟨rfl, hg2.out⟩
end TermV
end Go.Proofs.YtgbbpliihglijaaGreat
