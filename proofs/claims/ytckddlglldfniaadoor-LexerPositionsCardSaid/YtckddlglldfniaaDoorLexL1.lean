/- The walks of LexerWords and LexerPositions. Condition: the variable of the reserved words is as laid. -/
import Derived.Test.YtckddlglldfniaaDoorLexW
namespace Go.Proofs.YtckddlglldfniaaDoor
open Go Go.RowKit
namespace LexL1
open Kit LexM LexA LexE LexF LexG LexH LexI LexW
set_option maxHeartbeats 1600000 in
theorem words (s : ByteArray) (w : World) (hw : Wd w) :
    Calls Tryd.prog 4 #[.string s] w fun e w' => e = .returned (.bool true) ∧ Below w.heap.size w w' := by
  have C1 := Lib.hid (word_any s w hw)
  have C5 := Lib.hid (awake_any w hw)
  have q := (rfl : resB s.data.toList = resB s.data.toList)
  have HR : Hid (resB s.data.toList = (s.toList == [105, 102] || s.toList == [97, 110, 100] || s.toList == [110, 111, 116])) := by rw [ByteArray.toList_eq]; exact rfl
  clear q
  generalize resB s.data.toList = b at *
  by_cases p1 : s.toList = [105, 102]
  · have V : b = true := by rw [HR.out, p1]; rfl
    subst V
    have q1 : (s.toList == [105, 102]) = true := by simpa using p1
    clear HR
    go_enter Tryd.func4, Tryd.ntmps4
    go_wp2_with fail
    refine C1.out.mono ?_
    rintro e w' ⟨rfl, rfl⟩
    go_wp2_with fail
    refine C5.out.mono ?_
    rintro e w' ⟨rfl, k⟩
    go_wp2_with fail
    go_ret
    exact ⟨rfl, k⟩
  by_cases p2 : s.toList = [97, 110, 100]
  · have V : b = true := by rw [HR.out, p2]; rfl
    subst V
    have q2 : (s.toList == [97, 110, 100]) = true := by simpa using p2
    have q1 : (s.toList == [105, 102]) = false := by simpa using p1
    clear HR
    go_enter Tryd.func4, Tryd.ntmps4
    go_wp2_with fail
    refine C1.out.mono ?_
    rintro e w' ⟨rfl, rfl⟩
    go_wp2_with fail
    refine C5.out.mono ?_
    rintro e w' ⟨rfl, k⟩
    go_wp2_with fail
    go_ret
    exact ⟨rfl, k⟩
  by_cases p3 : s.toList = [110, 111, 116]
  · have V : b = true := by rw [HR.out, p3]; rfl
    subst V
    have q3 : (s.toList == [110, 111, 116]) = true := by simpa using p3
    have q2 : (s.toList == [97, 110, 100]) = false := by simpa using p2
    have q1 : (s.toList == [105, 102]) = false := by simpa using p1
    clear HR
    go_enter Tryd.func4, Tryd.ntmps4
    go_wp2_with fail
    refine C1.out.mono ?_
    rintro e w' ⟨rfl, rfl⟩
    go_wp2_with fail
    refine C5.out.mono ?_
    rintro e w' ⟨rfl, k⟩
    go_wp2_with fail
    go_ret
    exact ⟨rfl, k⟩
  have q3 : (s.toList == [110, 111, 116]) = false := by simpa using p3
  have q2 : (s.toList == [97, 110, 100]) = false := by simpa using p2
  have q1 : (s.toList == [105, 102]) = false := by simpa using p1
  have V : b = false := by rw [HR.out, q1, q2, q3]; rfl
  subst V
  clear HR
  go_enter Tryd.func4, Tryd.ntmps4
  go_wp2_with fail
  refine C1.out.mono ?_
  rintro e w' ⟨rfl, rfl⟩
  go_wp2_with fail
  refine C5.out.mono ?_
  rintro e w' ⟨rfl, k⟩
  go_wp2_with fail
  go_ret
  exact ⟨rfl, k⟩
theorem pos_of (s : ByteArray) (k : Int) (w : World) (hw : Wd w) (x y : Int) (hs : s.size ≤ 2000) (p1 : ∀ w, Calls Tryd.prog 18 #[.string s, .int .i64 k] w fun e w' => e = .returned (.tuple #[.int .i64 x, .int .i64 y]) ∧ w = w')
    (p2 : ∀ w, Calls Tryd.prog 19 #[.string s, .int .i64 k] w fun e w' => e = .returned (.tuple #[.int .i64 x, .int .i64 y]) ∧ w = w') :
    Calls Tryd.prog 6 #[.string s, .int .i64 k] w fun e w' => e = .returned (.bool true) ∧ Below w.heap.size w w' := by
  have C1 := Lib.hid p1
  have C2 := Lib.hid p2
  have C5 := Lib.hid (awake_any w hw)
  clear p1 p2
  go_enter Tryd.func6, Tryd.ntmps6
  go_wp2_with fail
  refine (C1.out _).mono ?_
  rintro e w' ⟨rfl, rfl⟩
  go_wp2_with fail
  refine (C2.out _).mono ?_
  rintro e w' ⟨rfl, rfl⟩
  go_wp2_with fail
  refine C5.out.mono ?_
  rintro e w' ⟨rfl, k⟩
  go_wp2_with fail
  go_ret
  exact ⟨rfl, k⟩
theorem positions (s : ByteArray) (k : Int) (w : World) (hw : Wd w) :
    Calls Tryd.prog 6 #[.string s, .int .i64 k] w fun e w' => e = .returned (.bool true) ∧ Below w.heap.size w w' := by
  by_cases h0 : 2000 < s.size
  · have C5 := Lib.hid (awake_any w hw)
    go_enter Tryd.func6, Tryd.ntmps6
    go_wp2_with fail
    refine C5.out.mono ?_
    rintro e w' ⟨rfl, k⟩
    go_wp2_with fail
    go_ret
    exact ⟨rfl, k⟩
  · by_cases h : k < 0 ∨ (s.size : Int) < k
    · exact pos_of s k w hw 0 0 (by omega) (fun w => pos_out s k w h) (fun w => rpos_out s k w h)
    · obtain ⟨j, rfl⟩ := Int.eq_ofNat_of_zero_le (show 0 ≤ k by omega)
      exact pos_of s j w hw _ _ (by omega) (fun w => pos_in s j w (by omega) (by omega)) (fun w => rpos_in s j w (by omega) (by omega))
end LexL1
end Go.Proofs.YtckddlglldfniaaDoor
