/- Small terms at the bound 20. Made by gensmall.py. No conditions. -/
import Derived.Test.YtgbbpliihglijaaGAB
import Derived.Deep.RegionWith
import Derived.BigQuiet
import Derived.Deep.RegionHeld3
import Derived.Deep.DeepCutAuto
namespace Go.Proofs.Ytgbbpliihglijaa
open Go Go.RowKit
namespace NetSm
open LexM TermM TermI Kit TermN TermS
set_option maxRecDepth 100000 in
set_option maxHeartbeats 1600000 in
theorem parts_any (D : Nat) : ∀ (t : Tm) (B : Nat) (w : World) (sv : Value), D ≤ 20 → B ≤ w.heap.size → SlIn (· < B) w t.args sv →
    Calls Try.prog 34 #[.agg #[.string t.nm, sv], .int .i64 20, .int .i64 D] w fun e w' => e = .returned (.int .i64 (partsT 20 D t)) ∧ Gr w w' := by
  induction D with
  | zero =>
    intro t B w sv hD hB h
    obtain ⟨p, c, rfl, hn, hc, hm, hR⟩ := h.row
    clear hR h
    go_enter Try.func34, Try.ntmps34
    go_wp2_with fail
    go_ret
    exact ⟨rfl, Gr.alloc _ _⟩
  | succ D ih =>
    rintro ⟨n, l⟩ B w sv hD hB h
    dsimp only [Tm.args, Tm.nm] at h ⊢
    obtain ⟨p, c, rfl, hn, hc, hm, hR⟩ := h.row
    obtain ⟨E, hE⟩ : ∃ E : Int, E = ((D + 1 : Nat) : Int) := ⟨_, rfl⟩
    rw [← hE]
    have hE1 : 1 ≤ E := by omega
    have hE2 : E ≤ 20 := by omega
    have hE3 : (D : Int) = E - 1 := by omega
    have IH : Hid (∀ (t : Tm) (w : World) (v : Value), B ≤ w.heap.size → SlIn (· < B) w t.args v → Calls Try.prog 34 #[.agg #[.string t.nm, v], .int .i64 20, .int .i64 (E - 1)] w fun e w' => e = .returned (.int .i64 (partsT 20 D t)) ∧ Gr w w') :=
      Lib.hid (fun t w v hB h => by rw [← hE3]; exact ih t B w v (by omega) hB h)
    clear hE3 hE
    have NX := Lib.hid (upN_next 20 D l)
    have ST := Lib.hid (upN_stuck 20 D l)
    have PB : Hid (∀ t, partsT 20 D t ≤ 20000) := Lib.hid (fun t => by
      have h1 := parts_le 20 D t
      have h2 : (D + 1) * (20 + 1) ≤ 21 * 22 := Nat.le_trans (Nat.mul_le_mul_right 21 (show _ ≤ 22 by omega)) (by decide)
      omega)
    have UB : Hid (∀ k, upN 20 D (l.take k) ≤ 20000) := Lib.hid (fun k => by
      have h1 : upN 20 D (l.take k) = partsT 20 (D + 1) (.mk n (l.take k)) := by simp only [partsT]; rfl
      have h2 := parts_le 20 (D + 1) (.mk n (l.take k))
      have h3 : (D + 1 + 1) * (20 + 1) ≤ 21 * 22 := Nat.le_trans (Nat.mul_le_mul_right 21 (show _ ≤ 22 by omega)) (by decide)
      omega)
    have FL : Hid (upN 20 D (l.take l.length) = upN 20 D l) := Lib.hid (by simp)
    have RT : Hid (partsT 20 (D + 1) (.mk n l) = upN 20 D l) := Lib.hid (by simp only [partsT]; rfl)
    have U0 : Hid (upN 20 D (l.take 0) = 1) := Lib.hid (by simp [upN])
    have HB := Lib.hid hB
    have HR := Lib.hid hR
    generalize partsT 20 (D + 1) (.mk n l) = R at *
    generalize hm' : l.length = m at *
    have HM := Lib.hid hm'
    clear ih hR h hm' hn
    unfold maxLen at hm
    go_enter Try.func34, Try.ntmps34
    go_wp2_with fail
    go_loopw [7, 16] (fun d i wr => ∃ k : Nat, k ≤ m ∧ i = .int .i64 k ∧ d = .int .i64 (upN 20 D (l.take k)) ∧ Hid (Gr (w.alloc (.cells #[.string n, .slice p m c] 57)) wr)) (fun _ i _ => m - (intOf i).toNat)
    case atStart => exact ⟨0, Nat.zero_le _, rfl, by rw [U0.out]; rfl, Lib.hid (Gr.refl _)⟩
    case round =>
      obtain ⟨k, hk, rfl, rfl, hg⟩ := hrel
      have hd := UB.out k
      by_cases hlt : k < m
      · obtain ⟨t, b, o, q, d, ht, rfl, hb, c1, c2, hs, hts⟩ := (HR.out.gr ((Gr.alloc _ _).trans hg.out) HB.out) k (by rw [HM.out]; exact hlt)
        obtain ⟨b0, b1, _, _, hbl⟩ := (hg.out.has (Has.new w _ _)).two
        have n1 := NX.out k t ht
        have n2 := PB.out t
        by_cases hst : 20 < upN 20 D (l.take k)
        · have HF := Lib.hid (ST.out k hst)
          clear n1
          go_wp2_with fail
          go_ret
          exact ⟨ret_int (by rw [RT.out, HF.out]), (Gr.alloc _ _).trans hg.out⟩
        · rw [if_neg hst] at n1
          have HD := Lib.hid n1
          have HS := Lib.hid hs
          clear n1 ht hs
          have hst' : upN 20 D (l.take k) ≤ 20 := by omega
          go_wp2_with fail
          refine (IH.out _ _ _ (Nat.le_trans HB.out ((Gr.alloc _ _).trans hg.out).size) HS.out).mono ?_
          rintro e w' ⟨rfl, g2⟩
          have hg2 := Lib.hid (hg.out.trans g2)
          clear g2
          go_wp2_with fail
          go_roundw
          case rel => exact ⟨k + 1, by omega, by go_num, by rw [HD.out]; first | rfl | (congr 1; omega), hg2⟩
          case measure => simp [intOf]; omega
      · obtain rfl : k = m := by omega
        have HF := Lib.hid FL.out
        go_wp2_with fail
        go_ret
        exact ⟨ret_int (by rw [RT.out, HF.out]), (Gr.alloc _ _).trans hg.out⟩
theorem small_any (t : Tm) (B : Nat) (w : World) (sv : Value) (hB : B ≤ w.heap.size) (h : SlIn (· < B) w t.args sv) :
    Calls Try.prog 18 #[.agg #[.string t.nm, sv], .int .i64 20] w fun e w' => e = .returned (.bool (decide (partsT 20 20 t ≤ 20))) ∧ Gr w w' := by
  obtain ⟨p, c, rfl, hn, hc, hm, hR⟩ := h.row
  have HC : Hid (Calls Try.prog 34 #[.agg #[.string t.nm, .slice p t.args.length c], .int .i64 20, .int .i64 20] (w.alloc (.cells #[.string t.nm, .slice p t.args.length c] 57)) fun e w' => e = .returned (.int .i64 (partsT 20 20 t)) ∧ Gr (w.alloc (.cells #[.string t.nm, .slice p t.args.length c] 57)) w') :=
    Lib.hid (parts_any 20 t B _ _ (by omega) (Nat.le_trans hB (Gr.alloc _ _).size) (h.gr (Gr.alloc _ _) hB))
  clear hR h hn
  go_enter Try.func18, Try.ntmps18
  go_wp2_with fail
  refine HC.out.mono ?_
  rintro e w' ⟨rfl, g2⟩
  have hg2 := Lib.hid ((Gr.alloc _ _).trans g2)
  clear g2
  go_wp2_with fail
  go_ret
  exact ⟨ret_bool (by rw [Bool.eq_iff_iff]; simp; omega), hg2.out⟩

theorem smalls_any (l : List Tm) (B : Nat) (w : World) (v : Value) (hB : B ≤ w.heap.size) (h : SlIn (· < B) w l v) :
    Calls Try.prog 17 #[v, .int .i64 20] w fun e w' => e = .returned (.bool (decide (l.length ≤ 20) && l.all fun t => decide (partsT 20 20 t ≤ 20))) ∧ Gr w w' := by
  obtain ⟨p, c, rfl, hn, hc, hm, hR⟩ := h.row
  unfold maxLen at hm
  by_cases h20 : 20 < l.length
  · have HF : Hid ((decide (l.length ≤ 20) && l.all fun t => decide (partsT 20 20 t ≤ 20)) = false) := by rw [decide_eq_false (by omega)]; exact rfl
    generalize hm' : l.length = m at *
    clear h hR hm'
    go_enter Try.func17, Try.ntmps17
    go_wp2_with fail
    go_ret
    exact ⟨ret_bool HF.out.symm, Gr.refl _⟩
  · have HF : Hid ((decide (l.length ≤ 20) && l.all fun t => decide (partsT 20 20 t ≤ 20)) = l.all fun t => decide (partsT 20 20 t ≤ 20)) := by rw [decide_eq_true (by omega)]; exact rfl
    have NX : Hid (∀ k t, l[k]? = some t → ((l.take (k + 1)).all fun t => decide (partsT 20 20 t ≤ 20)) = (((l.take k).all fun t => decide (partsT 20 20 t ≤ 20)) && decide (partsT 20 20 t ≤ 20))) := Lib.hid (fun k t h => by
      rw [take_get l k t h, List.all_append]; simp)
    have NO : Hid (∀ k t, l[k]? = some t → decide (partsT 20 20 t ≤ 20) = false → (l.all fun t => decide (partsT 20 20 t ≤ 20)) = false) := Lib.hid (fun k t h1 h2 => by
      rw [List.all_eq_false]; exact ⟨t, List.mem_of_getElem? h1, by simpa using h2⟩)
    have FL : Hid (l.take l.length = l) := Lib.hid (by simp)
    have HB := Lib.hid hB
    have HR := Lib.hid hR
    generalize (decide (l.length ≤ 20) && l.all fun t => decide (partsT 20 20 t ≤ 20)) = R at *
    have SM := Lib.hid (fun t w sv hB h => small_any t B w sv hB h)
    have h20' : l.length ≤ 20 := by omega
    generalize hm' : l.length = m at *
    have HM := Lib.hid hm'
    clear hR h hm' hn h20
    go_enter Try.func17, Try.ntmps17
    go_wp2_with fail
    go_loopw [12] (fun i wr => ∃ k : Nat, k ≤ m ∧ i = .int .i64 k ∧ Hid (((l.take k).all fun t => decide (partsT 20 20 t ≤ 20)) = true) ∧ Hid (Gr w wr)) (fun i _ => m - (intOf i).toNat)
    case atStart => exact ⟨0, Nat.zero_le _, rfl, Lib.hid rfl, Lib.hid (Gr.refl _)⟩
    case round =>
      obtain ⟨k, hk, rfl, hA, hg⟩ := hrel
      by_cases hlt : k < m
      · obtain ⟨t, b, o, q, d, ht, rfl, hb, c1, c2, hs, hts⟩ := (HR.out.gr hg.out HB.out) k (by rw [HM.out]; exact hlt)
        have HS := Lib.hid hs
        have N1 := Lib.hid (NX.out k t ht)
        have N2 := Lib.hid (NO.out k t ht)
        clear ht hs
        go_wp2_with fail
        refine (SM.out t _ _ (Nat.le_trans HB.out hg.out.size) HS.out).mono ?_
        rintro e w' ⟨rfl, g2⟩
        have hg2 := Lib.hid (hg.out.trans g2)
        clear g2
        cases hdc : decide (partsT 20 20 t ≤ 20)
        · have HF2 := Lib.hid (N2.out hdc)
          go_wp2_with fail
          go_ret
          exact ⟨ret_bool (by rw [HF.out, HF2.out]), hg2.out⟩
        · have HA2 : Hid (((l.take (k + 1)).all fun t => decide (partsT 20 20 t ≤ 20)) = true) := by rw [N1.out, hA.out, hdc]; exact rfl
          go_wp2_with fail
          go_roundw
          case rel => exact ⟨k + 1, by omega, by go_num, HA2, hg2⟩
          case measure => simp [intOf]; omega
      · obtain rfl : k = m := by omega
        have HF2 : Hid (R = true) := by rw [HF.out, ← hA.out, FL.out]; exact rfl
        go_wp2_with fail
        go_ret
        exact ⟨ret_bool HF2.out.symm, hg.out⟩
end NetSm
end Go.Proofs.Ytgbbpliihglijaa
