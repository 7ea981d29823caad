/- Position, of the code and of the reference. Conditions: the string's length. -/
import Derived.Test.YtckddlglldfniaaDoorLexF
import Derived.Test.YtckddlglldfniaaDoorShelf
namespace Go.Proofs.YtckddlglldfniaaDoor
open Go Go.RowKit
namespace LexH
open Kit LexM LexF
def lastF (s : ByteArray) (k : Nat) : Int := Lib.lastIdx s 10 k
theorem lastF_step (s : ByteArray) (k : Nat) (h : k < s.size) : lastF s (k + 1) = if (s[k].toNat : Int) = 10 then (k : Int) else lastF s k := by
  unfold lastF
  rw [Lib.lastIdx]
  have hd : k < s.data.size := h
  have e : s.data[k]! = s[k] := by
    rw [getElem!_pos s.data k hd]; rfl
  rw [e]
theorem lastF_in (s : ByteArray) : ∀ k : Nat, -1 ≤ lastF s k ∧ lastF s k < k := by
  intro k
  unfold lastF
  rcases Lib.lastIdx_spec s 10 k with ⟨h, _⟩ | ⟨i, hi, h, _⟩
  · rw [h]; omega
  · rw [h]; omega
theorem lastF_ext (s : ByteArray) (n : Nat) (hn : n ≤ s.size) : ∀ k, k ≤ n → lastF (s.extract 0 n) k = lastF s k := by
  intro k
  induction k with
  | zero => intro _; rfl
  | succ k ih =>
    intro hk
    have hz : (s.extract 0 n).size = n := by have := ext_size s 0 n (by omega); simpa using this
    rw [lastF_step _ k (by omega), lastF_step s k (by omega), ih (by omega)]
    have e : (s.extract 0 n)[k]'(by omega) = s[k]'(by omega) := by
      simp [ByteArray.getElem_extract]
    rw [e]
def posF (s : ByteArray) (k : Nat) : Int × Int := (((s.data.toList.take k).count 10 : Nat) + 1, k - lastF s k)
set_option maxHeartbeats 1600000 in
theorem pos_out (s : ByteArray) (k : Int) (w : World) (h : k < 0 ∨ (s.size : Int) < k) :
    Calls Tryd.prog 18 #[.string s, .int .i64 k] w fun e w' => e = .returned (.tuple #[.int .i64 0, .int .i64 0]) ∧ w = w' := by
  by_cases h1 : k < 0
  · go_enter Tryd.func18, Tryd.ntmps18
    go_wp2_with fail
    go_ret2
    exact ⟨rfl, rfl⟩
  · have h2 : (s.size : Int) < k := by omega
    go_enter Tryd.func18, Tryd.ntmps18
    go_wp2_with fail
    go_ret2
    exact ⟨rfl, rfl⟩
set_option maxHeartbeats 1600000 in
theorem rpos_out (s : ByteArray) (k : Int) (w : World) (h : k < 0 ∨ (s.size : Int) < k) :
    Calls Tryd.prog 19 #[.string s, .int .i64 k] w fun e w' => e = .returned (.tuple #[.int .i64 0, .int .i64 0]) ∧ w = w' := by
  by_cases h1 : k < 0
  · go_enter Tryd.func19, Tryd.ntmps19
    go_wp2_with fail
    go_ret2
    exact ⟨rfl, rfl⟩
  · have h2 : (s.size : Int) < k := by omega
    go_enter Tryd.func19, Tryd.ntmps19
    go_wp2_with fail
    go_ret2
    exact ⟨rfl, rfl⟩
set_option maxHeartbeats 1600000 in
theorem pos_in (s : ByteArray) (k : Nat) (w : World) (hs : s.size ≤ 140737488355328) (hk : k ≤ s.size) :
    Calls Tryd.prog 18 #[.string s, .int .i64 k] w fun e w' => e = .returned (.tuple #[.int .i64 (posF s k).1, .int .i64 (posF s k).2]) ∧ w = w' := by
  have hz : (s.extract 0 k).size = k := by have := ext_size s 0 k (by omega); simpa using this
  have hd : (s.extract 0 k).data.toList = s.data.toList.take k := by
    have h := ext_eq s 0 k
    rw [Nat.zero_add, List.drop_zero] at h
    exact h
  have C1 := Lib.hid (fun w => Tryd.strings_Count_one (s.extract 0 k) 10 w)
  have C2 := Lib.hid (fun w => Tryd.strings_LastIndex_one (s.extract 0 k) ⟨#[10]⟩ rfl (by rw [hz]; omega) w)
  have e2 : Lib.lastIndexByte (s.extract 0 k) (((⟨#[10]⟩ : ByteArray)[0]'(by decide)).toNat : Int) = lastF s k := by
    unfold Lib.lastIndexByte
    rw [hz]
    exact lastF_ext s k hk k (Nat.le_refl _)
  have hb := lastF_in s k
  have hc : (s.data.toList.take k).count 10 ≤ k := Nat.le_trans List.count_le_length (List.length_take_le _ _)
  unfold posF
  unfold Lib.countByte at C1
  rw [hd] at C1
  rw [e2] at C2
  clear e2 hd hz
  generalize lastF s k = L at *
  generalize (s.data.toList.take k).count 10 = c at *
  go_enter Tryd.func18, Tryd.ntmps18
  go_wp2_with fail
  refine (C1.out _).mono ?_
  rintro e w' ⟨rfl, rfl⟩
  go_wp2_with fail
  refine (C2.out _).mono ?_
  rintro e w'' ⟨rfl, rfl⟩
  go_wp2_with fail
  go_ret2
  exact ⟨rfl, rfl⟩
set_option maxHeartbeats 1600000 in
theorem rpos_in (s : ByteArray) (k : Nat) (w : World) (hs : s.size ≤ 140737488355328) (hk : k ≤ s.size) :
    Calls Tryd.prog 19 #[.string s, .int .i64 k] w fun e w' => e = .returned (.tuple #[.int .i64 (posF s k).1, .int .i64 (posF s k).2]) ∧ w = w' := by
  go_enter Tryd.func19, Tryd.ntmps19
  go_wp2_with fail
  go_loop [6, 7, 8] (fun a b i => ∃ j : Nat, j ≤ k ∧ i = .int .i64 j ∧ a = .int .i64 (posF s j).1 ∧ b = .int .i64 (posF s j).2) (fun _ _ i => k - (intOf i).toNat)
  case atStart => exact ⟨0, Nat.zero_le _, rfl, rfl, rfl⟩
  case round =>
    obtain ⟨j, hj, rfl, rfl, rfl⟩ := hrel
    by_cases hlt : j < k
    · have hjs : j < s.size := by omega
      have hb := lastF_in s j
      have hc : (s.data.toList.take j).count 10 ≤ j := Nat.le_trans List.count_le_length (List.length_take_le _ _)
      have S1 : Hid ((posF s (j + 1)).1 = (((s.data.toList.take j).count 10 : Nat) : Int) + (if (s[j].toNat : Int) = 10 then 1 else 0) + 1) := by
        unfold posF
        dsimp only
        rw [take_snoc s j hjs, List.count_append]
        by_cases c : (s[j].toNat : Int) = 10
        · have : s[j] = 10 := by apply UInt8.toNat_inj.1; show s[j].toNat = 10; omega
          rw [if_pos c, this]; exact Lib.hid (by simp)
        · have : s[j] ≠ 10 := by intro h; rw [h] at c; simp at c
          rw [if_neg c]; exact Lib.hid (by simp [this])
      have S2 : Hid ((posF s (j + 1)).2 = if (s[j].toNat : Int) = 10 then 1 else (j : Int) - lastF s j + 1) := by
        unfold posF
        dsimp only
        rw [lastF_step s j hjs]
        by_cases c : (s[j].toNat : Int) = 10
        · rw [if_pos c, if_pos c]; exact Lib.hid (by omega)
        · rw [if_neg c, if_neg c]; exact Lib.hid (by omega)
      unfold posF
      dsimp only
      generalize lastF s j = L at *
      generalize (s.data.toList.take j).count 10 = n at *
      by_cases c : (s[j].toNat : Int) = 10
      · have c' : ((s[j].toNat : Int) == 10) = true := by simpa using c
        have T1 := S1.out
        have T2 := S2.out
        rw [if_pos c] at T1 T2
        have U1 := Lib.hid T1
        have U2 := Lib.hid T2
        clear T1 T2 S1 S2 c
        go_wp2_with fail
        go_round
        case rel => exact ⟨j + 1, by omega, by go_num, by show _ = Value.int .i64 (posF s (j + 1)).1; rw [U1.out], by show _ = Value.int .i64 (posF s (j + 1)).2; rw [U2.out]⟩
        case measure => simp [intOf]; omega
      · have c' : ((s[j].toNat : Int) == 10) = false := by simpa using c
        have T1 := S1.out
        have T2 := S2.out
        rw [if_neg c] at T1 T2
        have U1 := Lib.hid T1
        have U2 := Lib.hid T2
        clear T1 T2 S1 S2
        go_wp2_with fail
        go_round
        case rel => exact ⟨j + 1, by omega, by go_num, by show _ = Value.int .i64 (posF s (j + 1)).1; rw [U1.out]; simp, by show _ = Value.int .i64 (posF s (j + 1)).2; rw [U2.out]⟩
        case measure => simp [intOf]; omega
    · obtain rfl : j = k := by omega
      go_wp2_with fail
      go_ret2
      exact ⟨rfl, rfl⟩
end LexH
end Go.Proofs.YtckddlglldfniaaDoor
