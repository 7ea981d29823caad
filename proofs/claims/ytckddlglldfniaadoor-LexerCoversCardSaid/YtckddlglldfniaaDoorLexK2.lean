/- LexerCovers' walk. -/
import Derived.Test.YtckddlglldfniaaDoorLexU
namespace Go.Proofs.YtckddlglldfniaaDoor
open Go Go.RowKit
namespace LexK2
open Kit LexM LexA LexE LexF LexG LexI LexW LexS LexT LexU
theorem scan_step (s : ByteArray) (j a : Nat) (c d : Bool) (hj : j < a) (ha : a ≤ s.size) (h : scan c ((s.data.toList.drop j).take (a - j)) = some d) :
    ((((s[j]'(by omega)).toNat : Int) == 35 || (c && !(((s[j]'(by omega)).toNat : Int) == 10))) = true ∨ blB (s[j]'(by omega)).toNat = true) ∧ scan (((s[j]'(by omega)).toNat : Int) == 35 || (c && !(((s[j]'(by omega)).toNat : Int) == 10))) ((s.data.toList.drop (j + 1)).take (a - (j + 1))) = some d := by
  have e : s.data.toList.drop j = (s[j]'(by omega)) :: s.data.toList.drop (j + 1) := by
    rw [List.drop_eq_getElem_cons (by have := len_eq s; omega)]
    rfl
  rw [e, show a - j = (a - (j + 1)) + 1 from by omega, List.take_succ_cons, scan] at h
  split at h
  · rename_i hc
    exact ⟨hc, h⟩
  · cases h
theorem cov_at {S : List UInt8} {ts : List Tok} {k e : Nat} (hk : k < ts.length) (h : Cov S e (ts.drop k)) : ∃ t, ts[k]? = some t ∧ e ≤ t.2.2 ∧ t.2.2 ≤ S.length ∧ t.2.1.length ≤ S.length - t.2.2 ∧ (S.drop t.2.2).take t.2.1.length = t.2.1 ∧ (∃ c, scan false ((S.drop e).take (t.2.2 - e)) = some c) ∧ Cov S (t.2.2 + t.2.1.length) (ts.drop (k + 1)) := by
  rw [List.drop_eq_getElem_cons hk] at h
  obtain ⟨h1, h2, h3, h4, h5, h6⟩ := h
  exact ⟨ts[k], by simp, h1, h2, h3, h4, h5, h6⟩
set_option maxRecDepth 100000 in
set_option maxHeartbeats 6400000 in
theorem covers_law (s : ByteArray) (w : World) (hw : Wd w) :
    Calls Tryd.prog 8 #[.string s] w fun e w' => e = .returned (.bool true) ∧ Below w.heap.size w w' := by
  have C5 := Lib.hid (fun w hw => awake_any w hw)
  have HW := Lib.hid hw
  have hG := hw.1
  clear hw
  by_cases h0 : 2000 < s.size
  · go_enter Tryd.func8, Tryd.ntmps8
    go_wp2_with fail
    refine (C5.out _ HW.out).mono ?_
    rintro e w' ⟨rfl, k⟩
    go_wp2_with fail
    go_ret
    exact ⟨rfl, k⟩
  have K1 := fun w hw => lex_any s w hw (by omega)
  have hcnt := lexR_count s.data.toList
  have hcov := covers s.data.toList
  by_cases hR : (lexR s.data.toList).2.2 = 0
  · have hnorm : lexR s.data.toList = ((lexR s.data.toList).1, 0, 0) ∧ 0 < (lexR s.data.toList).1.length := by
      unfold lexR at hR ⊢
      split at hR
      · exact absurd hR (by decide)
      · rename_i hn
        rw [if_neg hn]
        obtain ⟨xs, e1, _⟩ := lexF_good _ _ _ hR
        rw [e1]
        exact ⟨rfl, by simp⟩
    obtain ⟨hnorm, hpos⟩ := hnorm
    have hc0 := hcov _ hnorm
    have C1 := Lib.hid (fun w hw => lexed_ok (K1 w hw) hR)
    clear K1 hcov hnorm
    generalize lexR s.data.toList = R at *
    unfold Got at C1
    obtain ⟨ts, r1, r2⟩ := R
    dsimp only at C1 hcnt hpos hc0
    have HC0 := Lib.hid hc0
    clear hc0
    have LE := len_eq s
    have MP : Hid (∀ (l : List Tok) (k : Nat) (t : Tok), l[k]? = some t → (l.map gt)[k]? = some (gt t)) := Lib.hid (fun l k t h => by rw [List.getElem?_map, h]; rfl)
    have HN : Hid (∀ k e, k < ts.length → Cov s.data.toList e (ts.drop k) → ∃ t, ts[k]? = some t ∧ e ≤ t.2.2 ∧ t.2.2 ≤ s.size ∧ (bs t.2.1).size ≤ s.size - t.2.2 ∧ s.extract t.2.2 (t.2.2 + (bs t.2.1).size) = bs t.2.1 ∧ (∃ c, scan false ((s.data.toList.drop e).take (t.2.2 - e)) = some c) ∧ Cov s.data.toList (t.2.2 + (bs t.2.1).size) (ts.drop (k + 1))) := Lib.hid (fun k e hk h => by
      obtain ⟨t, g1, g2, g3, g4, g5, g6, g7⟩ := cov_at hk h
      have hz : (bs t.2.1).size = t.2.1.length := by show t.2.1.toArray.size = _; simp
      rw [LE] at g3 g4
      exact ⟨t, g1, g2, g3, by omega, by rw [hz, bs_ext, g5], g6, by rw [hz]; exact g7⟩)
    have HE : Hid (∀ e, Cov s.data.toList e (ts.drop ts.length) → e = s.size) := Lib.hid (fun e h => by
      rw [List.drop_length] at h
      rw [← LE]; exact h)
    have SS := Lib.hid (fun j a c d hj ha h => scan_step s j a c d hj ha h)
    have CV0 : Hid (Cov s.data.toList 0 (ts.drop 0)) := Lib.hid HC0.out
    clear HC0 hR
    generalize hn : ts.length = n at *
    clear hn
    go_enter Tryd.func8, Tryd.ntmps8
    go_wp2_with fail
    refine (C1.out _ HW.out).mono ?_
    rintro e w1 ⟨g1, c1, rfl, T1, hg1, k1⟩
    have D1 := Lib.hid k1
    have W1 := Lib.hid (HW.out.below k1 hG)
    have X1 := Lib.hid T1
    clear k1 T1
    go_wp2_with fail
    go_loopw [6, 7] (fun x i wL => ∃ k e : Nat, k ≤ n ∧ e ≤ s.size ∧ x = .int .i64 e ∧ i = .int .i64 k ∧ Hid (Cov s.data.toList e (ts.drop k)) ∧ Hid (Below w1.heap.size w1 wL)) (fun _ i _ => n - (intOf i).toNat)
    case atStart => exact ⟨0, 0, Nat.zero_le _, Nat.zero_le _, rfl, rfl, CV0, Lib.hid (Below.refl _ _)⟩
    case round =>
      obtain ⟨k, e, hk, he, rfl, rfl, hcv, hb⟩ := hrel
      by_cases hlt : k < n
      · obtain ⟨t, ht, p1, p2, p3, p4, ⟨d, p5⟩, p6⟩ := HN.out k e hlt hcv.out
        obtain ⟨x1, x2, x3⟩ := (X1.out.below hb.out X1.out.1).2 k _ (MP.out _ k t ht)
        have P5 := Lib.hid p5
        have P6 := Lib.hid p6
        unfold gt at x1 x2 x3
        dsimp only at x1 x2 x3
        clear ht hcv p5 p6
        simp only [Nat.zero_add] at x1 x2 x3
        generalize t.1 = a1 at *
        generalize bs t.2.1 = a2 at *
        generalize t.2.2 = a at *
        have hsz2 : a + a2.size ≤ s.size := by omega
        have q1 : IntKind.i64.wrap ((s.size : Int) - (a : Int)) = ((s.size - a : Nat) : Int) := by
          rw [IntWalk.i64_in _ ⟨by omega, by omega⟩]; omega
        have q2 : (0 : Int) ≤ (a : Int) := by omega
        have q3 : (a : Int) ≤ ((a + a2.size : Nat) : Int) := by omega
        have q4 : ((a + a2.size : Nat) : Int) ≤ (s.size : Int) := by omega
        have q8 : (a : Int) ≤ (a : Int) + (a2.size : Int) := by omega
        have q9 : (a : Int) + (a2.size : Int) ≤ (s.size : Int) := by omega
        have q10 : ((a : Int) + (a2.size : Int)).toNat = a + a2.size := by omega
        have q7 : IntKind.i64.wrap ((a : Int) + (a2.size : Int)) = ((a + a2.size : Nat) : Int) := by
          rw [IntWalk.i64_in _ ⟨by omega, by omega⟩]; omega
        have q5 : (a : Int) ≤ (s.size : Int) := by omega
        have q6 : decide (IntKind.i64.wrap ((s.size : Int) - (a : Int)) < (a2.size : Int)) = false := by rw [q1]; simp; omega
        go_wp2_with fail
        have d1 : decide (a < e) = false := by simp; omega
        have d2 : decide (s.size < a) = false := by simp; omega
        have d3 : decide (s.size - a < a2.size) = false := by simp; omega
        go_quiet (fail)
        go_wp2_with fail
        clear d1 d2 d3
        go_loop [9, 10] (fun c j => ∃ (x : Bool) (m : Nat), e ≤ m ∧ m ≤ a ∧ c = .bool x ∧ j = .int .i64 m ∧ Hid (scan x ((s.data.toList.drop m).take (a - m)) = some d)) (fun _ j => a - (intOf j).toNat)
        case atStart => exact ⟨false, e, Nat.le_refl _, p1, rfl, rfl, P5⟩
        case round =>
          obtain ⟨x, m, hm1, hm2, rfl, rfl, hsc⟩ := hrel
          by_cases hma : m < a
          · obtain ⟨z1, z2⟩ := SS.out m a x d hma p2 hsc.out
            have Z2 := Lib.hid z2
            clear z2 hsc
            have hms : m < s.size := by omega
            cases c1 : ((s[m].toNat : Int) == 35)
            case true =>
              have Z3 : Hid (scan true ((s.data.toList.drop (m + 1)).take (a - (m + 1))) = some d) := by
                have h := Z2.out
                rw [c1] at h
                exact Lib.hid h
              clear Z2 z1
              go_wp2_with (go_at_call 20; refine (rblank_any _ _).mono ?_; rintro e w' ⟨rfl, rfl⟩)
              go_round
              case rel => exact ⟨true, m + 1, by omega, by omega, rfl, by go_num, Z3⟩
              case measure => simp [intOf] <;> omega
            case false =>
              by_cases hx : x = true ∧ ((s[m].toNat : Int) == 10) = false
              · obtain ⟨rfl, c2⟩ := hx
                have Z3 : Hid (scan true ((s.data.toList.drop (m + 1)).take (a - (m + 1))) = some d) := by
                  have h := Z2.out
                  rw [c1, c2] at h
                  exact Lib.hid h
                have c3 : ((s[m].toNat : Int) != 10) = true := by unfold bne; rw [c2]; rfl
                clear Z2 z1
                go_wp2_with (go_at_call 20; refine (rblank_any _ _).mono ?_; rintro e w' ⟨rfl, rfl⟩)
                go_round
                case rel => exact ⟨true, m + 1, by omega, by omega, rfl, by go_num, Z3⟩
                case measure => simp [intOf] <;> omega
              · have hf : (((s[m].toNat : Int) == 35) || (x && !((s[m].toNat : Int) == 10))) = false := by
                  rw [c1]
                  cases x
                  · rfl
                  · cases c2 : ((s[m].toNat : Int) == 10)
                    · exact absurd ⟨rfl, c2⟩ hx
                    · rfl
                have Z3 : Hid (scan false ((s.data.toList.drop (m + 1)).take (a - (m + 1))) = some d) := by
                  have h := Z2.out
                  rw [hf] at h
                  exact Lib.hid h
                have hbl : blB s[m].toNat = true := by
                  rcases z1 with h | h
                  · rw [hf] at h; cases h
                  · exact h
                clear Z2 z1 hf
                cases x
                case false =>
                  clear hx
                  go_wp2_with (go_at_call 20; refine (rblank_any _ _).mono ?_; rintro e w' ⟨rfl, rfl⟩)
                  go_round
                  case rel => exact ⟨false, m + 1, by omega, by omega, rfl, by go_num, Z3⟩
                  case measure => simp [intOf] <;> omega
                case true =>
                  have c2 : ((s[m].toNat : Int) != 10) = false := by
                    cases q : ((s[m].toNat : Int) == 10)
                    · exact absurd ⟨rfl, q⟩ hx
                    · unfold bne; rw [q]; rfl
                  clear hx
                  go_wp2_with (go_at_call 20; refine (rblank_any _ _).mono ?_; rintro e w' ⟨rfl, rfl⟩)
                  go_round
                  case rel => exact ⟨false, m + 1, by omega, by omega, rfl, by go_num, Z3⟩
                  case measure => simp [intOf] <;> omega
          · obtain rfl : m = a := by omega
            go_wp2_with fail
            go_roundw
            case rel => exact ⟨k + 1, m + a2.size, by omega, by omega, by go_num, by go_num, P6, Lib.hid (by first | exact hb.out.drew | exact below_drewN hb.out _)⟩
            case measure => simp [intOf] <;> omega
      · obtain rfl : k = n := by omega
        obtain rfl := HE.out e hcv.out
        go_wp2_with fail
        refine (C5.out _ (W1.out.below hb.out W1.out.1)).mono ?_
        rintro e w5 ⟨rfl, k5⟩
        have D5 := next0 (D1.out.trans (hb.out.mono D1.out.size)) k5
        go_wp2_with fail
        go_ret
        exact ⟨rfl, D5⟩
  · have C1 := Lib.hid (fun w hw => lexed_err (K1 w hw) hR)
    clear K1
    generalize lexR s.data.toList = R at *
    obtain ⟨ts, r1, r2⟩ := R
    dsimp only at C1 hR
    have hr2 : (r2 != 0) = true := by simpa using hR
    clear hR hcov
    go_enter Tryd.func8, Tryd.ntmps8
    go_wp2_with fail
    refine (C1.out _ HW.out).mono ?_
    rintro e w1 ⟨rfl, k1⟩
    have D1 := Lib.hid k1
    have W1 := Lib.hid (HW.out.below k1 hG)
    clear k1
    go_wp2_with fail
    refine (C5.out _ W1.out).mono ?_
    rintro e w4 ⟨rfl, k4⟩
    have D4 := next0 D1.out k4
    go_wp2_with fail
    go_ret
    exact ⟨rfl, D4⟩
end LexK2
end Go.Proofs.YtckddlglldfniaaDoor
