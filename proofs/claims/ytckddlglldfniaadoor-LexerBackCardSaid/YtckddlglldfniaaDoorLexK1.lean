/- LexerBack's walk. -/
import Derived.Test.YtckddlglldfniaaDoorLexU
namespace Go.Proofs.YtckddlglldfniaaDoor
open Go Go.RowKit
namespace LexK1
open Kit LexM LexE LexF LexG LexI LexW LexS LexT
theorem kt_at {ts ts' : List Tok} (h : ts'.map kt = ts.map kt) (i : Nat) (t : Tok) (ht : ts[i]? = some t) : ∃ t', ts'[i]? = some t' ∧ t'.1 = t.1 ∧ t'.2.1 = t.2.1 := by
  have h1 : (ts'.map kt)[i]? = some (kt t) := by rw [h, List.getElem?_map, ht]; rfl
  rw [List.getElem?_map] at h1
  obtain ⟨t', h2, h3⟩ := Option.map_eq_some_iff.1 h1
  exact ⟨t', h2, (Prod.mk.inj h3).1, (Prod.mk.inj h3).2⟩
set_option maxRecDepth 100000 in
set_option maxHeartbeats 6400000 in
theorem backs (s : ByteArray) (w : World) (hw : Wd w) :
    Calls Tryd.prog 7 #[.string s] w fun e w' => e = .returned (.bool true) ∧ Below w.heap.size w w' := by
  have C5 := Lib.hid (fun w hw => awake_any w hw)
  have HW := Lib.hid hw
  have hG := hw.1
  clear hw
  by_cases h0 : 2000 < s.size
  · go_enter Tryd.func7, Tryd.ntmps7
    go_wp2_with fail
    refine (C5.out _ HW.out).mono ?_
    rintro e w' ⟨rfl, k⟩
    go_wp2_with fail
    go_ret
    exact ⟨rfl, k⟩
  have K1 := fun w hw => lex_any s w hw (by omega)
  have hcnt := lexR_count s.data.toList
  have hback := fun ts h => back s.data.toList (by rw [len_eq]; omega) ts h
  by_cases hR : (lexR s.data.toList).2.2 = 0
  · have hnorm : lexR s.data.toList = ((lexR s.data.toList).1, 0, 0) := by
      unfold lexR at hR ⊢
      split at hR
      · exact absurd hR (by decide)
      · rename_i hn
        rw [if_neg hn]
        obtain ⟨xs, e1, _⟩ := lexF_good _ _ _ hR
        rw [e1]
    obtain ⟨hjl, ts', hR', hkt⟩ := hback _ hnorm
    have C1 := Lib.hid (fun w hw => lexed_ok (K1 w hw) hR)
    clear K1 hback hnorm
    generalize lexR s.data.toList = R at *
    unfold Got at C1
    obtain ⟨ts, r1, r2⟩ := R
    dsimp only at C1 hcnt hjl hR' hkt
    have hlen : ts'.length = ts.length := by have := congrArg List.length hkt; simpa using this
    have J1 := Lib.hid (fun g cap w h => join_any (some ⟨g, 0, none⟩) g 0 ts.length cap (ts.map gt) w (Or.inr rfl) (Or.inr h) (by simp) (by omega) (by omega))
    have C2 : Hid (∀ w, Wd w → Calls Tryd.prog 12 #[.string ⟨(joinT (ts.map gt)).toArray⟩] w (Got (lexR (joinT (ts.map gt))) w)) := Lib.hid (fun w hw =>
      lexed_ok (lex_any ⟨(joinT (ts.map gt)).toArray⟩ w hw (by show (joinT (ts.map gt)).toArray.size ≤ _; simp; omega)) (by rw [hR']))
    rw [hR'] at C2
    unfold Got at C2
    dsimp only at C2
    rw [hlen] at C2
    have HK := Lib.hid (fun i t ht => kt_at hkt i t ht)
    generalize joinT (ts.map gt) = J at *
    have HN : Hid (∀ k, k < ts.length → ∃ t, ts[k]? = some t) := Lib.hid (fun k hk => ⟨ts[k], by simp⟩)
    have MP : Hid (∀ (l : List Tok) (k : Nat) (t : Tok), l[k]? = some t → (l.map gt)[k]? = some (gt t)) := Lib.hid (fun l k t h => by rw [List.getElem?_map, h]; rfl)
    clear hR hjl hR' hkt hlen
    generalize hn : ts.length = n at *
    clear hn
    go_enter Tryd.func7, Tryd.ntmps7
    go_wp2_with fail
    refine (C1.out _ HW.out).mono ?_
    rintro e w1 ⟨g1, c1, rfl, T1, hg1, k1⟩
    have D1 := Lib.hid k1
    have W1 := Lib.hid (HW.out.below k1 hG)
    have X1 := Lib.hid T1
    clear k1 T1
    go_wp2_with fail
    refine (J1.out _ _ _ X1.out).mono ?_
    rintro e w2 ⟨rfl, k2⟩
    have D2 := Lib.hid (next0 D1.out k2)
    have W2 := Lib.hid (W1.out.below k2 W1.out.1)
    have X2 := Lib.hid (X1.out.below k2 X1.out.1)
    clear k2 D1 W1 X1
    go_wp2_with fail
    refine (C2.out _ W2.out).mono ?_
    rintro e w3 ⟨g2, c2, rfl, T3, hg2, k3⟩
    have D3 := Lib.hid (next0 D2.out k3)
    have W3 := Lib.hid (W2.out.below k3 W2.out.1)
    have X3 := Lib.hid (X2.out.below k3 X2.out.1)
    have Y3 := Lib.hid T3
    clear k3 D2 W2 X2 T3
    go_wp2_with fail
    go_loopw [9] (fun i wL => ∃ k : Nat, k ≤ n ∧ i = .int .i64 k ∧ Hid (Below w3.heap.size w3 wL)) (fun i _ => n - (intOf i).toNat)
    case atStart => exact ⟨0, Nat.zero_le _, rfl, Lib.hid (Below.refl _ _)⟩
    case round =>
      obtain ⟨k, hk, rfl, hb⟩ := hrel
      by_cases hlt : k < n
      · obtain ⟨t, ht⟩ := HN.out k hlt
        obtain ⟨t', ht', e1, e2⟩ := HK.out k t ht
        obtain ⟨x1, x2, x3⟩ := (X3.out.below hb.out X3.out.1).2 k _ (MP.out _ k t ht)
        obtain ⟨y1, y2, y3⟩ := (Y3.out.below hb.out Y3.out.1).2 k _ (MP.out _ k t' ht')
        unfold gt at x1 x2 x3 y1 y2 y3
        rw [e1] at y1
        rw [e2] at y2
        dsimp only at x1 x2 x3 y1 y2 y3
        clear ht ht' e1 e2
        simp only [Nat.zero_add] at x1 x2 x3 y1 y2 y3
        generalize t.1 = a1 at *
        generalize bs t.2.1 = a2 at *
        clear x3 y3
        go_wp2_with fail
        go_quiet (fail)
        all_goals
          go_wp2_with fail
          go_roundw
          case rel => exact ⟨k + 1, by omega, by go_num, Lib.hid (by first | exact hb.out.drew | exact below_drewN hb.out _)⟩
          case measure => simp [intOf] <;> omega
      · obtain rfl : k = n := by omega
        go_wp2_with fail
        refine (C5.out _ (W3.out.below hb.out W3.out.1)).mono ?_
        rintro e w5 ⟨rfl, k5⟩
        have D5 := next0 (D3.out.trans (hb.out.mono D3.out.size)) k5
        go_wp2_with fail
        go_ret
        exact ⟨rfl, D5⟩
  · have C1 := Lib.hid (fun w hw => lexed_err (K1 w hw) hR)
    clear K1 hback
    generalize lexR s.data.toList = R at *
    obtain ⟨ts, r1, r2⟩ := R
    dsimp only at C1 hR
    have hr2 : (r2 != 0) = true := by simpa using hR
    clear hR
    go_enter Tryd.func7, Tryd.ntmps7
    go_wp2_with fail
    refine (C1.out _ HW.out).mono ?_
    rintro e w1 ⟨rfl, k1⟩
    have D1 := Lib.hid k1
    have W1 := Lib.hid (HW.out.below k1 hG)
    clear k1
    go_wp2_with fail
    refine (C5.out _ W1.out).mono ?_
    rintro e w4 ⟨rfl, k4⟩
    have D4 := next0 D1.out k4
    go_wp2_with fail
    go_ret
    exact ⟨rfl, D4⟩
end LexK1
end Go.Proofs.YtckddlglldfniaaDoor
