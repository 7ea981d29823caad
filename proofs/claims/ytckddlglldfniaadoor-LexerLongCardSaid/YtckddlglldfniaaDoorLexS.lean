/- Same, at equal lists; Lex by its outcome; LexerLexes' walk. -/
import Derived.Test.YtckddlglldfniaaDoorLexR
import Derived.Test.YtckddlglldfniaaDoorLexW
namespace Go.Proofs.YtckddlglldfniaaDoor
open Go Go.RowKit
namespace LexS
open Kit LexM LexE LexF LexG LexR LexI LexW
set_option maxRecDepth 100000 in
set_option maxHeartbeats 1600000 in
theorem same_eq (g1 o1 g2 o2 n c1 c2 : Nat) (ts : List GTok) (w : World) (h1 : Toks w g1 o1 ts) (h2 : Toks w g2 o2 ts) (hl : ts.length = n) (hn : n ≤ 1000000) :
    Calls Tryd.prog 14 #[.slice (some ⟨g1, o1, none⟩) n c1, .slice (some ⟨g2, o2, none⟩) n c2] w fun e w' => e = .returned (.bool true) ∧ Below w.heap.size w w' := by
  have H1 := Lib.hid (fun w' (h : Below w.heap.size w w') => h1.below h h1.1)
  have H2 := Lib.hid (fun w' (h : Below w.heap.size w w') => h2.below h h2.1)
  have HL := Lib.hid hl
  clear h1 h2 hl
  go_enter Tryd.func14, Tryd.ntmps14
  go_wp2_with fail
  go_loopw [5] (fun i wL => ∃ k : Nat, k ≤ n ∧ i = .int .i64 k ∧ Hid (Below w.heap.size w wL)) (fun i _ => n - (intOf i).toNat)
  case atStart => exact ⟨0, Nat.zero_le _, rfl, Lib.hid (Below.refl _ _)⟩
  case round =>
    obtain ⟨k, hk, rfl, hb⟩ := hrel
    by_cases hlt : k < n
    · obtain ⟨t, ht⟩ : ∃ t, ts[k]? = some t := ⟨ts[k]'(by rw [HL.out]; exact hlt), by simp⟩
      obtain ⟨x1, x2, x3⟩ := (H1.out _ hb.out).2 k t ht
      obtain ⟨y1, y2, y3⟩ := (H2.out _ hb.out).2 k t ht
      clear ht
      obtain ⟨t1, t2, t3⟩ := t
      dsimp only at x1 x2 x3 y1 y2 y3
      go_wp2_with fail
      go_quiet (fail)
      all_goals
        go_wp2_with fail
        go_roundw
        case rel => exact ⟨k + 1, by omega, by go_num, Lib.hid (by first | exact hb.out.drew | exact below_drewN hb.out _)⟩
        case measure => simp [intOf] <;> omega
    · obtain rfl : k = n := by omega
      go_wp2_with fail
      go_ret
      exact ⟨rfl, hb.out⟩
theorem same_nil (w : World) : Calls Tryd.prog 14 #[.slice none 0 0, .slice none 0 0] w fun e w' => e = .returned (.bool true) ∧ w = w' := by
  go_enter Tryd.func14, Tryd.ntmps14
  go_wp2_with fail
  go_loop [5] (fun i => i = .int .i64 0) (fun _ => 0)
  case atStart => rfl
  case round =>
    subst hrel
    go_wp2_with fail
    go_ret
    exact ⟨rfl, rfl⟩
theorem lexed_err {f : FuncId} {s : ByteArray} {w : World} {R : Res} (h : Calls Tryd.prog f #[.string s] w (Lexed w R)) (hR : R.2.2 ≠ 0) :
    Calls Tryd.prog f #[.string s] w fun e w' => e = .returned (.tuple #[.slice none 0 0, .int .i64 R.2.1, .int .i64 R.2.2]) ∧ Below w.heap.size w w' :=
  h.mono fun e w' h => by
    rcases h with ⟨_, he, hb⟩ | ⟨h, _⟩
    · exact ⟨he, hb⟩
    · exact absurd h hR
def Got (R : Res) (w : World) (e : Ending) (w' : World) : Prop := ∃ g cap : Nat, e = .returned (.tuple #[.slice (some ⟨g, 0, none⟩) R.1.length cap, .int .i64 0, .int .i64 0]) ∧ Toks w' g 0 (R.1.map gt) ∧ w.heap.size ≤ g ∧ Below w.heap.size w w'
theorem lexed_ok {f : FuncId} {s : ByteArray} {w : World} {R : Res} (h : Calls Tryd.prog f #[.string s] w (Lexed w R)) (hR : R.2.2 = 0) :
    Calls Tryd.prog f #[.string s] w (Got R w) :=
  h.mono fun e w' h => by
    rcases h with ⟨h, _⟩ | ⟨_, g, cap, he, ho, hg, hl, hb⟩
    · exact absurd hR h
    · exact ⟨g, cap, he, toks_of ho hl, hg, hb⟩
theorem lexF_count : ∀ (f k : Nat) (l : List UInt8), (lexF f k l).1.length ≤ l.length + 1
  | 0, _, [] => by simp [lexF]
  | _ + 1, _, [] => by simp [lexF]
  | 0, _, _ :: _ => by simp [lexF]
  | f + 1, k, b :: l => by
    rw [lexF]
    by_cases h : (pieceF (b :: l)).2.2 = 0
    · rw [if_pos h]
      have ih := lexF_count f (k + (pieceF (b :: l)).2.1) ((b :: l).drop (pieceF (b :: l)).2.1)
      have hp := piece_len (b :: l) (by simp) h
      rw [List.length_drop] at ih
      have ht : (LexG.tok (pieceF (b :: l)) (b :: l) k).length ≤ 1 := by unfold LexG.tok; split <;> simp
      unfold cat
      split
      · rw [List.length_append]; omega
      · simp
    · rw [if_neg h]; simp
theorem lexR_count (l : List UInt8) : (lexR l).1.length ≤ 16385 := by
  unfold lexR
  split
  · simp
  · have := lexF_count l.length 0 l; omega
set_option maxRecDepth 100000 in
set_option maxHeartbeats 3200000 in
theorem lexes (s : ByteArray) (w : World) (hw : Wd w) :
    Calls Tryd.prog 3 #[.string s] w fun e w' => e = .returned (.bool true) ∧ Below w.heap.size w w' := by
  have C5 := Lib.hid (fun w hw => awake_any w hw)
  have HW := Lib.hid hw
  have hG := hw.1
  clear hw
  by_cases h0 : 2000 < s.size
  · go_enter Tryd.func3, Tryd.ntmps3
    go_wp2_with fail
    refine (C5.out _ HW.out).mono ?_
    rintro e w' ⟨rfl, k⟩
    go_wp2_with fail
    go_ret
    exact ⟨rfl, k⟩
  have K1 := fun w hw => lex_any s w hw (by omega)
  have K2 := fun w => rlex_any s w (by omega)
  have hcnt := lexR_count s.data.toList
  generalize lexR s.data.toList = R at *
  by_cases hR : R.2.2 = 0
  · have C1 := Lib.hid (fun w hw => lexed_ok (K1 w hw) hR)
    have C2 := Lib.hid (fun w => lexed_ok (K2 w) hR)
    unfold Got at C1 C2
    obtain ⟨ts, r1, r2⟩ := R
    dsimp only at C1 C2 hcnt
    have C3 := Lib.hid (fun g1 g2 c1 c2 w h1 h2 => same_eq g1 0 g2 0 ts.length c1 c2 (ts.map gt) w h1 h2 (by simp) (by omega))
    clear K1 K2 hR
    go_enter Tryd.func3, Tryd.ntmps3
    go_wp2_with fail
    refine (C1.out _ HW.out).mono ?_
    rintro e w1 ⟨g1, c1, rfl, T1, hg1, k1⟩
    have D1 := Lib.hid k1
    have W1 := Lib.hid (HW.out.below k1 hG)
    have X1 := Lib.hid T1
    clear k1 T1
    go_wp2_with fail
    refine (C2.out _).mono ?_
    rintro e w2 ⟨g2, c2, rfl, T2, hg2, k2⟩
    have D2 := Lib.hid (next0 D1.out k2)
    have W2 := Lib.hid (W1.out.below k2 W1.out.1)
    have X2 := X1.out.below k2 X1.out.1
    clear k2 D1 W1
    go_wp2_with fail
    refine (C3.out _ _ _ _ _ X2 T2).mono ?_
    rintro e w3 ⟨rfl, k3⟩
    have D3 := Lib.hid (next0 D2.out k3)
    have W3 := Lib.hid (W2.out.below k3 W2.out.1)
    clear k3 D2 W2 X2 T2
    go_wp2_with fail
    refine (C5.out _ W3.out).mono ?_
    rintro e w4 ⟨rfl, k4⟩
    have D4 := next0 D3.out k4
    go_wp2_with fail
    go_ret
    exact ⟨rfl, D4⟩
  · have C1 := Lib.hid (fun w hw => lexed_err (K1 w hw) hR)
    have C2 := Lib.hid (fun w => lexed_err (K2 w) hR)
    obtain ⟨ts, r1, r2⟩ := R
    dsimp only at C1 C2
    clear K1 K2 hR
    go_enter Tryd.func3, Tryd.ntmps3
    go_wp2_with fail
    refine (C1.out _ HW.out).mono ?_
    rintro e w1 ⟨rfl, k1⟩
    have D1 := Lib.hid k1
    have W1 := Lib.hid (HW.out.below k1 hG)
    clear k1
    go_wp2_with fail
    refine (C2.out _).mono ?_
    rintro e w2 ⟨rfl, k2⟩
    have D2 := Lib.hid (next0 D1.out k2)
    have W2 := Lib.hid (W1.out.below k2 W1.out.1)
    clear k2 D1 W1
    go_wp2_with fail
    refine (same_nil _).mono ?_
    rintro e w3 ⟨rfl, rfl⟩
    go_wp2_with fail
    refine (C5.out _ W2.out).mono ?_
    rintro e w4 ⟨rfl, k4⟩
    have D4 := next0 D2.out k4
    go_wp2_with fail
    go_ret
    exact ⟨rfl, D4⟩
end LexS
end Go.Proofs.YtckddlglldfniaaDoor
