/- Lex of the reference: the same tokens. Condition: the text's length fits. -/
import Derived.Test.YtdalepdpobcpaaaDoorLexG
namespace Go.Proofs.YtdalepdpobcpaaaDoor
open Go Go.RowKit
namespace LexR
open Kit LexM LexA LexB LexC LexD LexE LexF LexG
set_option maxRecDepth 100000 in
set_option maxHeartbeats 6400000 in
theorem rlex_any (s : ByteArray) (w : World) (hs : s.size ≤ 140737488355328) :
    Calls Tryd.prog 49 #[.string s] w (Lexed w (lexR s.data.toList)) := by
  by_cases hlong : 16384 < s.size
  · have V : Hid (lexR s.data.toList = ([], 0, 2)) := by unfold lexR; rw [len_eq, if_pos hlong]; exact rfl
    generalize lexR s.data.toList = R at *
    go_enter Tryd.func49, Tryd.ntmps49
    go_wp2_with fail
    go_ret3
    rw [V.out]
    exact Or.inl ⟨by decide, rfl, Below.refl _ _⟩
  have V : Hid (cat [] (lexF s.size 0 (s.data.toList.drop 0)) = lexR s.data.toList) := by
    unfold lexR
    rw [len_eq, if_neg hlong, List.drop_zero, lex_norm]; exact rfl
  generalize lexR s.data.toList = R at *
  obtain ⟨i0, hi, hz0, hz1, hz2⟩ := info_parts infoT
  go_enter Tryd.func49, Tryd.ntmps49
  go_wp2_with fail
  go_loopw [5, 6] (fun v i wL => ∃ (k : Nat) (acc : List Tok) (f : Nat), k ≤ s.size ∧ i = .int .i64 k ∧ acc.length ≤ k ∧ s.size - k ≤ f ∧ Hid (wL.ownsRow w.heap.size 61 3 v acc.length (acc.flatMap tcells)) ∧ Hid (cat acc (lexF f k (s.data.toList.drop k)) = R) ∧ Hid (Below w.heap.size w wL)) (fun _ i _ => s.size - (intOf i).toNat)
  case atStart => exact ⟨0, [], s.size, Nat.zero_le _, rfl, Nat.le_refl _, by omega, Lib.hid ⟨rfl, Or.inl ⟨rfl, rfl⟩⟩, V, Lib.hid (Below.refl _ _)⟩
  case round =>
    obtain ⟨k, acc, f, hk, rfl, hacc, hf, hO, hR, hB⟩ := hrel
    by_cases hlt : k < s.size
    · obtain ⟨f', rfl⟩ : ∃ f', f = f' + 1 := ⟨f - 1, by omega⟩
      have hne : s.data.toList.drop k ≠ [] := by
        intro h; have := congrArg List.length h; simp at this; omega
      have hst := lex_step f' k (s.data.toList.drop k) hne acc
      have hpl := piece_len (s.data.toList.drop k) hne
      have hdl : (s.data.toList.drop k).length = s.size - k := by simp
      have sp1 := spanL_le ncB (s.data.toList.drop k)
      have sp2 := spanL_le ruB (s.data.toList.drop k)
      rw [hdl] at hpl sp1 sp2
      rw [hR.out, List.drop_drop] at hst
      have BS := Lib.hid (fun n => bs_ext s k n)
      have TK : Hid (tok (pieceF (s.data.toList.drop k)) (s.data.toList.drop k) k = if (pieceF (s.data.toList.drop k)).1 = 0 then [] else [((pieceF (s.data.toList.drop k)).1, (s.data.toList.drop k).take (pieceF (s.data.toList.drop k)).2.1, k)]) := rfl
      have HP := Lib.hid (piece_eq s k hlt)
      have N1 := Lib.hid (span_next ncB s k hlt)
      have N2 := Lib.hid (span_next ruB s k hlt)
      generalize tok (pieceF (s.data.toList.drop k)) (s.data.toList.drop k) k = tk at *
      generalize pieceF (s.data.toList.drop k) = p at *
      generalize spanL ncB (s.data.toList.drop k) = n1 at *
      generalize spanL ruB (s.data.toList.drop k) = n2 at *
      have HST := Lib.hid hst
      have HPL := Lib.hid hpl
      clear hst hpl hne hdl hR
      cases c1 : blB s[k].toNat
      case true =>
        have Q : p = (0, 1, 0) := by rw [HP.out, c1]; rfl
        subst Q
        obtain rfl : tk = [] := TK.out
        have HN : Hid (cat acc (lexF f' (k + 1) (s.data.toList.drop (k + 1))) = R) := by
          have h := HST.out
          rw [if_pos rfl, List.append_nil] at h
          exact h.symm
        clear HP HST HPL TK N1 N2
        go_wp2_with (go_at_call 69; refine (rblank_any _ _).mono ?_; rintro e w' ⟨rfl, rfl⟩)
        go_roundw
        case rel => exact ⟨k + 1, acc, f', by omega, by go_num, by omega, by omega, hO, HN, hB⟩
        case measure => simp [intOf] <;> omega
      cases c2 : ((s[k].toNat : Int) == 35)
      case true =>
        have Q : p = (0, n1, 0) := by rw [HP.out, c1, c2]; rfl
        subst Q
        obtain rfl : tk = [] := TK.out
        have HN : Hid (cat acc (lexF f' (k + n1) (s.data.toList.drop (k + n1))) = R) := by
          have h := HST.out
          rw [if_pos rfl, List.append_nil] at h
          exact h.symm
        have h35 : (s[k].toNat : Int) = 35 := by simpa using c2
        have ST : Hid (k + 1 + spanL ncB (s.data.toList.drop (k + 1)) = k + n1) := by
          have h := N1.out
          rw [if_pos (by rw [h35]; rfl)] at h
          exact Lib.hid (by omega)
        clear HP HST HPL TK N1 N2 h35
        go_wp2_with (go_at_call 69; refine (rblank_any _ _).mono ?_; rintro e w' ⟨rfl, rfl⟩)
        go_loop [8] (fun v => ∃ j : Nat, k + 1 ≤ j ∧ j ≤ s.size ∧ v = .int .i64 j ∧ Hid (j + spanL ncB (s.data.toList.drop j) = k + n1)) (fun v => s.size - (intOf v).toNat)
        case atStart => exact ⟨k + 1, Nat.le_refl _, hlt, by go_num, ST⟩
        case round =>
          obtain ⟨j, hj1, hj2, rfl, hE⟩ := hrel
          by_cases hgo : ∃ h : j < s.size, ncB s[j].toNat = true
          · obtain ⟨hjl, hc⟩ := hgo
            have hn := span_next ncB s j hjl
            rw [if_pos hc] at hn
            have HX : Hid (j + 1 + spanL ncB (s.data.toList.drop (j + 1)) = k + n1) := by rw [← hE.out, hn]; exact Lib.hid (by omega)
            clear hn hE
            have c' : ((s[j].toNat : Int) != 10) = true := by simpa [ncB, bne] using hc
            go_wp2_with fail
            go_round
            case rel => exact ⟨j + 1, by omega, by omega, by go_num, HX⟩
            case measure => simp [intOf] <;> omega
          · have hstop : j = s.size ∨ ∃ h : j < s.size, ncB s[j].toNat = false := by
              by_cases h : j < s.size
              · right
                refine ⟨h, ?_⟩
                cases c : ncB s[j].toNat
                · rfl
                · exact absurd ⟨h, c⟩ hgo
              · left; omega
            have hjn : j = k + n1 := by
              have h := hE.out
              rcases hstop with h1 | ⟨h1, h2⟩
              · rw [span_end _ s j (by omega)] at h; omega
              · rw [span_next _ s j h1, if_neg (by rw [h2]; simp)] at h; omega
            clear hgo
            rcases hstop with hx | ⟨hx, hc⟩
            · have hx' : ¬ j < s.size := by omega
              clear hx hE
              have hjk : k + 1 ≤ k + n1 := by omega
              subst hjn
              go_wp2_with fail
              go_roundw
              case rel => exact ⟨k + n1, acc, f', by omega, by go_num, by omega, by omega, hO, HN, hB⟩
              case measure => simp [intOf] <;> omega
            · clear hE
              have c' : ((s[j].toNat : Int) != 10) = false := by simpa [ncB, bne] using hc
              have hjk : k + 1 ≤ k + n1 := by omega
              subst hjn
              go_wp2_with fail
              go_roundw
              case rel => exact ⟨k + n1, acc, f', by omega, by go_num, by omega, by omega, hO, HN, hB⟩
              case measure => simp [intOf] <;> omega
      cases c3 : syB s[k].toNat
      case true =>
        have Q : p = (4, 1, 0) := by rw [HP.out, c1, c2, c3]; rfl
        subst Q
        obtain rfl : tk = [(4, (s.data.toList.drop k).take 1, k)] := TK.out
        have HN : Hid (cat (acc ++ [(4, (s.data.toList.drop k).take 1, k)]) (lexF f' (k + 1) (s.data.toList.drop (k + 1))) = R) := by
          have h := HST.out
          rw [if_pos rfl] at h
          exact h.symm
        clear HP HST HPL TK N1 N2
        have e1 : (k : Int) + 1 ≤ (s.size : Int) := by omega
        have e2 : (k : Int) ≤ (k : Int) + 1 := by omega
        have e3 : (k : Int) < (s.size : Int) := by omega
        have A1 : acc.length + 1 ≤ maxLen := by unfold maxLen; omega
        have A2 : (acc.length + 1) * 32 ≤ 140737488355328 := by omega
        have A3 : w.heap.size ≤ (wr.alloc (.cells #[.int .i64 4, .string (s.extract k (k + 1)), .int .i64 k] 61)).heap.size := by have := hB.out.size; simp; omega
        go_wp2_with (first | (first | (go_at_call 69; refine (rblank_any _ _).mono ?_; rintro e w' ⟨rfl, rfl⟩) | (go_at_call 70; refine (rsymbol_any _ _).mono ?_; rintro e w' ⟨rfl, rfl⟩)) | (at_builtin; refine wpList_append_own _ rfl _ _ 57 rfl w.heap.size 61 i0 (.agg #[.int .i64 0, .string ⟨#[]⟩, .int .i64 0]) 3 32 Tryd.underlying57 hi hz0 hz1 hz2 rfl (by decide) _ _ _ rfl (hO.out.alloc _) ⟨wr.heap.size, 0, none⟩ 1 1 [.int .i64 4, .string (s.extract k (k + 1)), .int .i64 k] rfl rfl (news3 wr _ _ _ _) (one3 _ _ _) A1 A2 A3 ?_; intro v1 w1 hown1 hgrow1 _))
        have O2 : Hid (w1.ownsRow w.heap.size 61 3 v1 (acc ++ [(4, (s.data.toList.drop k).take (1), k)]).length ((acc ++ [(4, (s.data.toList.drop k).take (1), k)]).flatMap tcells)) := by
          rw [flat_snoc, List.length_append]
          rw [BS.out] at hown1
          exact hown1
        have B2 := Lib.hid ((hB.out.alloc hB.out.size _).grown hgrow1 A3 (own_ge hO.out))
        go_roundw
        case rel => exact ⟨k + (1), acc ++ [(4, (s.data.toList.drop k).take (1), k)], f', by omega, by go_num, by simp; omega, by omega, O2, HN, B2⟩
        case measure => simp [intOf] <;> omega
      cases c4 : ruB s[k].toNat
      case true =>
        have Q : p = (kindL ((s.data.toList.drop k).take n2), n2, kErr (kindL ((s.data.toList.drop k).take n2))) := by rw [HP.out, c1, c2, c3, c4]; rfl
        subst Q
        have ST : Hid (k + 1 + spanL ruB (s.data.toList.drop (k + 1)) = k + n2) := by
          have h := N2.out
          rw [if_pos c4] at h
          exact Lib.hid (by omega)
        have RK := kind_any (s.extract k (k + n2)) wr (by
          by_cases h : n2 = 0
          · have := N2.out; rw [if_pos c4] at this; omega
          · rw [ext_size s k n2 (by omega)]; omega)
        rw [ext_eq] at RK
        have RKH := Lib.hid RK
        clear HP N1 N2 RK
        dsimp only at HST HPL TK
        generalize kindL ((s.data.toList.drop k).take n2) = K at *
        go_wp2_with (first | (go_at_call 69; refine (rblank_any _ _).mono ?_; rintro e w' ⟨rfl, rfl⟩) | (go_at_call 70; refine (rsymbol_any _ _).mono ?_; rintro e w' ⟨rfl, rfl⟩) | (go_at_call 71; refine (rrun_any _ _).mono ?_; rintro e w' ⟨rfl, rfl⟩))
        go_loop [8] (fun v => ∃ j : Nat, k + 1 ≤ j ∧ j ≤ s.size ∧ v = .int .i64 j ∧ Hid (j + spanL ruB (s.data.toList.drop j) = k + n2)) (fun v => s.size - (intOf v).toNat)
        case atStart => exact ⟨k + 1, Nat.le_refl _, hlt, by go_num, ST⟩
        case round =>
          obtain ⟨j, hj1, hj2, rfl, hE⟩ := hrel
          by_cases hgo : ∃ h : j < s.size, ruB s[j].toNat = true
          · obtain ⟨hjl, hc⟩ := hgo
            have hn := span_next ruB s j hjl
            rw [if_pos hc] at hn
            have HX : Hid (j + 1 + spanL ruB (s.data.toList.drop (j + 1)) = k + n2) := by rw [← hE.out, hn]; exact Lib.hid (by omega)
            clear hn hE
            go_wp2_with (go_at_call 71; refine (rrun_any _ _).mono ?_; rintro e w' ⟨rfl, rfl⟩)
            go_round
            case rel => exact ⟨j + 1, by omega, by omega, by go_num, HX⟩
            case measure => simp [intOf] <;> omega
          · have hstop : j = s.size ∨ ∃ h : j < s.size, ruB s[j].toNat = false := by
              by_cases h : j < s.size
              · right
                refine ⟨h, ?_⟩
                cases c : ruB s[j].toNat
                · rfl
                · exact absurd ⟨h, c⟩ hgo
              · left; omega
            have hjn : j = k + n2 := by
              have h := hE.out
              rcases hstop with h1 | ⟨h1, h2⟩
              · rw [span_end _ s j (by omega)] at h; omega
              · rw [span_next _ s j h1, if_neg (by rw [h2]; simp)] at h; omega
            clear hgo
            rcases hstop with hx | ⟨hx, hc⟩
            · have hx' : ¬ j < s.size := by omega
              clear hx hE
              have hjk : k + 1 ≤ k + n2 := by omega
              have e1 : (k : Int) + (n2 : Int) ≤ (s.size : Int) := by omega
              have e2 : (k : Int) ≤ (k : Int) + (n2 : Int) := by omega
              subst hjn
              by_cases hK : K = 0
              · have HN : Hid (R = ([], k, 4)) := by
                  have h := HST.out
                  rw [hK] at h
                  rw [if_neg (by decide)] at h
                  exact h
                have hK' : (K == 0) = true := by simpa using hK
                clear HST HPL TK
                go_wp2_with (go_at_call 71; refine (rrun_any _ _).mono ?_; rintro e w' ⟨rfl, rfl⟩)
                refine RKH.out.mono ?_
                rintro e w' ⟨rfl, rfl⟩
                go_wp2_with fail
                go_ret3
                rw [HN.out]
                exact Or.inl ⟨by show (4 : Int) ≠ 0; decide, rfl, hB.out⟩
              · have hK' : (K == 0) = false := by simpa using hK
                obtain rfl : tk = [(K, (s.data.toList.drop k).take n2, k)] := by rw [TK.out, if_neg hK]
                have HN : Hid (cat (acc ++ [(K, (s.data.toList.drop k).take n2, k)]) (lexF f' (k + n2) (s.data.toList.drop (k + n2))) = R) := by
                  have h := HST.out
                  rw [if_pos (by unfold kErr; rw [if_neg hK])] at h
                  exact h.symm
                clear HST HPL TK
                go_wp2_with (go_at_call 71; refine (rrun_any _ _).mono ?_; rintro e w' ⟨rfl, rfl⟩)
                refine RKH.out.mono ?_
                rintro e w' ⟨rfl, rfl⟩
                have A1 : acc.length + 1 ≤ maxLen := by unfold maxLen; omega
                have A2 : (acc.length + 1) * 32 ≤ 140737488355328 := by omega
                have A3 : w.heap.size ≤ (wr.alloc (.cells #[.int .i64 K, .string (s.extract k (k + n2)), .int .i64 k] 61)).heap.size := by have := hB.out.size; simp; omega
                go_wp2_with (first | (fail) | (at_builtin; refine wpList_append_own _ rfl _ _ 57 rfl w.heap.size 61 i0 (.agg #[.int .i64 0, .string ⟨#[]⟩, .int .i64 0]) 3 32 Tryd.underlying57 hi hz0 hz1 hz2 rfl (by decide) _ _ _ rfl (hO.out.alloc _) ⟨wr.heap.size, 0, none⟩ 1 1 [.int .i64 K, .string (s.extract k (k + n2)), .int .i64 k] rfl rfl (news3 wr _ _ _ _) (one3 _ _ _) A1 A2 A3 ?_; intro v1 w1 hown1 hgrow1 _))
                have O2 : Hid (w1.ownsRow w.heap.size 61 3 v1 (acc ++ [(K, (s.data.toList.drop k).take (n2), k)]).length ((acc ++ [(K, (s.data.toList.drop k).take (n2), k)]).flatMap tcells)) := by
                  rw [flat_snoc, List.length_append]
                  rw [BS.out] at hown1
                  exact hown1
                have B2 := Lib.hid ((hB.out.alloc hB.out.size _).grown hgrow1 A3 (own_ge hO.out))
                go_roundw
                case rel => exact ⟨k + (n2), acc ++ [(K, (s.data.toList.drop k).take (n2), k)], f', by omega, by go_num, by simp; omega, by omega, O2, HN, B2⟩
                case measure => simp [intOf] <;> omega
            · clear hE
              have hjk : k + 1 ≤ k + n2 := by omega
              have e1 : (k : Int) + (n2 : Int) ≤ (s.size : Int) := by omega
              have e2 : (k : Int) ≤ (k : Int) + (n2 : Int) := by omega
              subst hjn
              by_cases hK : K = 0
              · have HN : Hid (R = ([], k, 4)) := by
                  have h := HST.out
                  rw [hK] at h
                  rw [if_neg (by decide)] at h
                  exact h
                have hK' : (K == 0) = true := by simpa using hK
                clear HST HPL TK
                go_wp2_with (go_at_call 71; refine (rrun_any _ _).mono ?_; rintro e w' ⟨rfl, rfl⟩)
                refine RKH.out.mono ?_
                rintro e w' ⟨rfl, rfl⟩
                go_wp2_with fail
                go_ret3
                rw [HN.out]
                exact Or.inl ⟨by show (4 : Int) ≠ 0; decide, rfl, hB.out⟩
              · have hK' : (K == 0) = false := by simpa using hK
                obtain rfl : tk = [(K, (s.data.toList.drop k).take n2, k)] := by rw [TK.out, if_neg hK]
                have HN : Hid (cat (acc ++ [(K, (s.data.toList.drop k).take n2, k)]) (lexF f' (k + n2) (s.data.toList.drop (k + n2))) = R) := by
                  have h := HST.out
                  rw [if_pos (by unfold kErr; rw [if_neg hK])] at h
                  exact h.symm
                clear HST HPL TK
                go_wp2_with (go_at_call 71; refine (rrun_any _ _).mono ?_; rintro e w' ⟨rfl, rfl⟩)
                refine RKH.out.mono ?_
                rintro e w' ⟨rfl, rfl⟩
                have A1 : acc.length + 1 ≤ maxLen := by unfold maxLen; omega
                have A2 : (acc.length + 1) * 32 ≤ 140737488355328 := by omega
                have A3 : w.heap.size ≤ (wr.alloc (.cells #[.int .i64 K, .string (s.extract k (k + n2)), .int .i64 k] 61)).heap.size := by have := hB.out.size; simp; omega
                go_wp2_with (first | (fail) | (at_builtin; refine wpList_append_own _ rfl _ _ 57 rfl w.heap.size 61 i0 (.agg #[.int .i64 0, .string ⟨#[]⟩, .int .i64 0]) 3 32 Tryd.underlying57 hi hz0 hz1 hz2 rfl (by decide) _ _ _ rfl (hO.out.alloc _) ⟨wr.heap.size, 0, none⟩ 1 1 [.int .i64 K, .string (s.extract k (k + n2)), .int .i64 k] rfl rfl (news3 wr _ _ _ _) (one3 _ _ _) A1 A2 A3 ?_; intro v1 w1 hown1 hgrow1 _))
                have O2 : Hid (w1.ownsRow w.heap.size 61 3 v1 (acc ++ [(K, (s.data.toList.drop k).take (n2), k)]).length ((acc ++ [(K, (s.data.toList.drop k).take (n2), k)]).flatMap tcells)) := by
                  rw [flat_snoc, List.length_append]
                  rw [BS.out] at hown1
                  exact hown1
                have B2 := Lib.hid ((hB.out.alloc hB.out.size _).grown hgrow1 A3 (own_ge hO.out))
                go_roundw
                case rel => exact ⟨k + (n2), acc ++ [(K, (s.data.toList.drop k).take (n2), k)], f', by omega, by go_num, by simp; omega, by omega, O2, HN, B2⟩
                case measure => simp [intOf] <;> omega
      case false =>
        have Q : p = (0, 0, 1) := by rw [HP.out, c1, c2, c3, c4]; rfl
        subst Q
        have HN : Hid (R = ([], k, 1)) := by
          have h := HST.out
          rw [if_neg (by decide)] at h
          exact h
        clear HP HST HPL TK N1 N2
        go_wp2_with (first | (go_at_call 69; refine (rblank_any _ _).mono ?_; rintro e w' ⟨rfl, rfl⟩) | (go_at_call 70; refine (rsymbol_any _ _).mono ?_; rintro e w' ⟨rfl, rfl⟩) | (go_at_call 71; refine (rrun_any _ _).mono ?_; rintro e w' ⟨rfl, rfl⟩))
        go_ret3
        rw [HN.out]
        exact Or.inl ⟨by show (1 : Int) ≠ 0; decide, rfl, hB.out⟩
    · obtain rfl : k = s.size := by omega
      have HN := hR.out
      rw [List.drop_eq_nil_of_le (by simp), lex_nil] at HN
      have HN2 := Lib.hid HN.symm
      clear HN hR
      have A1 : acc.length + 1 ≤ maxLen := by unfold maxLen; omega
      have A2 : (acc.length + 1) * 32 ≤ 140737488355328 := by omega
      have A3 : w.heap.size ≤ (wr.alloc (.cells #[.int .i64 0, .string ⟨#[]⟩, .int .i64 s.size] 61)).heap.size := by have := hB.out.size; simp; omega
      go_wp2_with (at_builtin; refine wpList_append_lies _ rfl _ _ 57 rfl w.heap.size 61 i0 (.agg #[.int .i64 0, .string ⟨#[]⟩, .int .i64 0]) 3 32 Tryd.underlying57 hi hz0 hz1 hz2 rfl (by decide) _ _ _ rfl (hO.out.alloc _) ⟨wr.heap.size, 0, none⟩ 1 1 [.int .i64 0, .string ⟨#[]⟩, .int .i64 s.size] rfl rfl (news3 wr _ _ _ _) (one3 _ _ _) (by decide) A1 A2 A3 (wr.heap.size + 1) (by simp) ?_; intro g cap w1 hown1 hgrow1 hat hlt1)
      have B2 := (hB.out.alloc hB.out.size _).grown hgrow1 A3 (own_ge hO.out)
      have hgg : w.heap.size ≤ g := own_ge hown1 g rfl
      go_ret3
      rw [HN2.out]
      refine Or.inr ⟨rfl, g, cap, ?_, ?_, hgg, hlt1, B2⟩
      · rw [List.length_append]; exact rfl
      · rw [flat_snoc, List.length_append]; exact hown1
end LexR
end Go.Proofs.YtdalepdpobcpaaaDoor
