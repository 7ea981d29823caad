/- Orders of integers, of strings, of classes: the code's and the reference's. Condition: names' lengths fit an int. -/
import Derived.Test.YtihbnonbhelbmaaGreatDoorTermV
import Derived.WalkLawsBesides
import Derived.Deep.RegionHeld3
import Derived.Deep.DeepCutAuto
import Derived.Lib.QuietBelow
namespace Go.Proofs.YtihbnonbhelbmaaGreatDoor
open Go Go.RowKit
namespace TermO
open LexM TermM TermI Kit TermN TermA TermB TermC TermD TermV
theorem nanI_any (a : Int) (w : World) : Calls Tryz.prog 127 #[.int .i64 a] w fun e w' => e = .returned (.bool false) ∧ w = w' := by
  go_enter Tryz.func127, Tryz.ntmps127
  go_wp2_with fail
  go_ret
  exact ⟨ret_bool (by simp), rfl⟩
theorem nanS_any (a : ByteArray) (w : World) : Calls Tryz.prog 103 #[.string a] w fun e w' => e = .returned (.bool false) ∧ w = w' := by
  go_enter Tryz.func103, Tryz.ntmps103
  go_wp2_with fail
  go_ret
  exact ⟨ret_bool (by simp), rfl⟩
theorem cmpI_any (a b : Int) (w : World) : Calls Tryz.prog 93 #[.int .i64 a, .int .i64 b] w fun e w' => e = .returned (.int .i64 (sg a b)) ∧ w = w' := by
  have N := Lib.hid (fun a w => nanI_any a w)
  rcases Int.lt_trichotomy a b with h | h | h
  · have HF : Hid (sg a b = -1) := by unfold sg; rw [if_pos h]; exact rfl
    generalize sg a b = R at *
    go_enter Tryz.func93, Tryz.ntmps93
    go_wp2_with (go_at_call 127; refine (N.out _ _).mono ?_; rintro e w' ⟨rfl, rfl⟩)
    go_ret
    exact ⟨ret_int HF.out.symm, rfl⟩
  · have HF : Hid (sg a b = 0) := by unfold sg; rw [if_neg (by omega), if_neg (by omega)]; exact rfl
    generalize sg a b = R at *
    have h1 : ¬ a < b := by omega
    have h2 : ¬ b < a := by omega
    clear h
    go_enter Tryz.func93, Tryz.ntmps93
    go_wp2_with (go_at_call 127; refine (N.out _ _).mono ?_; rintro e w' ⟨rfl, rfl⟩)
    go_ret
    exact ⟨ret_int HF.out.symm, rfl⟩
  · have HF : Hid (sg a b = 1) := by unfold sg; rw [if_neg (by omega), if_pos h]; exact rfl
    generalize sg a b = R at *
    have h1 : ¬ a < b := by omega
    go_enter Tryz.func93, Tryz.ntmps93
    go_wp2_with (go_at_call 127; refine (N.out _ _).mono ?_; rintro e w' ⟨rfl, rfl⟩)
    go_ret
    exact ⟨ret_int HF.out.symm, rfl⟩
theorem less_neg : ∀ x y : List UInt8, Op.bytesLess x y = true → Op.bytesLess y x = false := by
  intro x y h
  have h1 := lex_less x y
  have h2 := lex_less y x
  have h3 := lex_neg x y
  rw [if_pos h] at h1
  cases hc : Op.bytesLess y x
  · rfl
  · rw [if_pos hc] at h2; omega
theorem less_eq : ∀ x y : List UInt8, Op.bytesLess x y = false → Op.bytesLess y x = false → x = y := by
  intro x y h1 h2
  have h := lex_less x y
  rw [h1, h2] at h
  exact (lex_zero x y).1 (by simpa using h)
theorem cmpS_any (a b : ByteArray) (w : World) : Calls Tryz.prog 77 #[.string a, .string b] w fun e w' => e = .returned (.int .i64 (lexB a.data.toList b.data.toList)) ∧ w = w' := by
  have N := Lib.hid (fun a w => nanS_any a w)
  have HF := Lib.hid (lex_less a.data.toList b.data.toList)
  rw [← ByteArray.toList_eq, ← ByteArray.toList_eq] at HF ⊢
  have E1 := Lib.hid (less_neg a.toList b.toList)
  have E2 := Lib.hid (less_eq a.toList b.toList)
  generalize lexB a.toList b.toList = R at *
  cases h1 : Op.bytesLess a.toList b.toList
  · cases h2 : Op.bytesLess b.toList a.toList
    · have h3 : (a.toList == b.toList) = true := by simpa using E2.out h1 h2
      have HF2 : Hid (R = 0) := Lib.hid (by have := HF.out; rw [h1, h2] at this; simpa using this)
      clear HF E1 E2
      go_enter Tryz.func77, Tryz.ntmps77
      go_wp2_with (go_at_call 103; refine (N.out _ _).mono ?_; rintro e w' ⟨rfl, rfl⟩)
      go_ret
      exact ⟨ret_int HF2.out.symm, rfl⟩
    · have h3 : (a.toList == b.toList) = false := by
        cases hc : (a.toList == b.toList)
        · rfl
        · have := (lex_zero a.toList b.toList).2 (by simpa using hc)
          have h4 := lex_less a.toList b.toList
          rw [h1, h2] at h4
          simp at h4
          omega
      have HF2 : Hid (R = 1) := Lib.hid (by have := HF.out; rw [h1, h2] at this; simpa using this)
      clear HF E1 E2
      go_enter Tryz.func77, Tryz.ntmps77
      go_wp2_with (go_at_call 103; refine (N.out _ _).mono ?_; rintro e w' ⟨rfl, rfl⟩)
      go_ret
      exact ⟨ret_int HF2.out.symm, rfl⟩
  · have HF2 : Hid (R = -1) := Lib.hid (by have := HF.out; rw [h1] at this; simpa using this)
    clear HF E1 E2
    go_enter Tryz.func77, Tryz.ntmps77
    go_wp2_with (go_at_call 103; refine (N.out _ _).mono ?_; rintro e w' ⟨rfl, rfl⟩)
    go_ret
    exact ⟨ret_int HF2.out.symm, rfl⟩
theorem class_any (n : ByteArray) (p : Option Addr) (m c : Nat) (w : World) (hs : n.size ≤ 9223372036854775807) :
    Calls Tryz.prog 126 #[.agg #[.string n, .slice p m c]] w fun e w' => e = .returned (.int .i64 (cls n (decide (m = 0)))) ∧ Gr w w' := by
  have C1 := Lib.hid (fun w => num_any n w hs)
  have C2 := Lib.hid (fun w => var_any n w hs)
  by_cases h0 : m = 0
  · subst h0
    have HF : Hid (cls n (decide ((0 : Nat) = 0)) = if isNum n.data.toList = true then 0 else if varL n.data.toList = true then 2 else 1) := rfl
    generalize cls n (decide ((0 : Nat) = 0)) = R at *
    generalize isNum n.data.toList = a at *
    generalize varL n.data.toList = b at *
    generalize numV n.data.toList = v at *
    cases a <;> cases b
    all_goals
      go_enter Tryz.func126, Tryz.ntmps126
      go_wp2_with (first | (go_at_call 128; refine (C1.out _).mono ?_; rintro e w' ⟨rfl, rfl⟩) | (go_at_call 39; refine (C2.out _).mono ?_; rintro e w' ⟨rfl, rfl⟩))
      go_ret
      exact ⟨ret_int (by rw [HF.out]; rfl), Gr.alloc _ _⟩
  · have HF : Hid (cls n (decide (m = 0)) = 3) := by rw [decide_eq_false h0]; exact rfl
    generalize cls n (decide (m = 0)) = R at *
    have h1 : (0 : Int) < m := by omega
    go_enter Tryz.func126, Tryz.ntmps126
    go_wp2_with fail
    go_ret
    exact ⟨ret_int HF.out.symm, Gr.alloc _ _⟩
end TermO
end Go.Proofs.YtihbnonbhelbmaaGreatDoor
