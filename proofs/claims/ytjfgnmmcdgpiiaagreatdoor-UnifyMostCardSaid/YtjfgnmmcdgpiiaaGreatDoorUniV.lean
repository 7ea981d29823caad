/- Small terms at the bound 100; few and same of gameplayerlaw07. Made by genuniv.py. No conditions. -/
import Derived.Test.YtjfgnmmcdgpiiaaGreatDoorTermS
import Derived.Test.YtjfgnmmcdgpiiaaGreatDoorTermEq
import Derived.Test.YtjfgnmmcdgpiiaaGreatDoorUniP
import Derived.Deep.RegionWith
import Derived.BigQuiet
import Derived.Deep.RegionHeld3
import Derived.Deep.DeepCutAuto
namespace Go.Proofs.YtjfgnmmcdgpiiaaGreatDoor
open Go Go.RowKit
namespace UniV
open LexM TermM TermI Kit TermN TermS UniK UniM UniA
set_option maxRecDepth 100000 in
set_option maxHeartbeats 1600000 in
theorem parts_any (D : Nat) : ∀ (t : Tm) (B : Nat) (w : World) (sv : Value), D ≤ 100 → B ≤ w.heap.size → SlIn (· < B) w t.args sv →
    Calls Tryz.prog 49 #[.agg #[.string t.nm, sv], .int .i64 100, .int .i64 D] w fun e w' => e = .returned (.int .i64 (partsT 100 D t)) ∧ Gr w w' := by
  induction D with
  | zero =>
    intro t B w sv hD hB h
    obtain ⟨p, c, rfl, hn, hc, hm, hR⟩ := h.row
    clear hR h
    go_enter Tryz.func49, Tryz.ntmps49
    go_wp2_with fail
    go_ret
    exact ⟨rfl, Gr.alloc _ _⟩
  | succ D ih =>
    rintro ⟨n, l⟩ B w sv hD hB h
    dsimp only [Tm.args, Tm.nm] at h ⊢
    obtain ⟨p, c, rfl, hn, hc, hm, hR⟩ := h.row
    obtain ⟨E, hE⟩ : ∃ E : Int, E = ((D + 1 : Nat) : Int) := ⟨_, rfl⟩
    rw [← hE]
    have hE1 : 1 ≤ E := by omega
    have hE2 : E ≤ 100 := by omega
    have hE3 : (D : Int) = E - 1 := by omega
    have IH : Hid (∀ (t : Tm) (w : World) (v : Value), B ≤ w.heap.size → SlIn (· < B) w t.args v → Calls Tryz.prog 49 #[.agg #[.string t.nm, v], .int .i64 100, .int .i64 (E - 1)] w fun e w' => e = .returned (.int .i64 (partsT 100 D t)) ∧ Gr w w') :=
      Lib.hid (fun t w v hB h => by rw [← hE3]; exact ih t B w v (by omega) hB h)
    clear hE3 hE
    have NX := Lib.hid (upN_next 100 D l)
    have ST := Lib.hid (upN_stuck 100 D l)
    have PB : Hid (∀ t, partsT 100 D t ≤ 20000) := Lib.hid (fun t => by
      have h1 := parts_le 100 D t
      have h2 : (D + 1) * (100 + 1) ≤ 101 * 102 := Nat.le_trans (Nat.mul_le_mul_right 101 (show _ ≤ 102 by omega)) (by decide)
      omega)
    have UB : Hid (∀ k, upN 100 D (l.take k) ≤ 20000) := Lib.hid (fun k => by
      have h1 : upN 100 D (l.take k) = partsT 100 (D + 1) (.mk n (l.take k)) := by simp only [partsT]; rfl
      have h2 := parts_le 100 (D + 1) (.mk n (l.take k))
      have h3 : (D + 1 + 1) * (100 + 1) ≤ 101 * 102 := Nat.le_trans (Nat.mul_le_mul_right 101 (show _ ≤ 102 by omega)) (by decide)
      omega)
    have FL : Hid (upN 100 D (l.take l.length) = upN 100 D l) := Lib.hid (by simp)
    have RT : Hid (partsT 100 (D + 1) (.mk n l) = upN 100 D l) := Lib.hid (by simp only [partsT]; rfl)
    have U0 : Hid (upN 100 D (l.take 0) = 1) := Lib.hid (by simp [upN])
    have HB := Lib.hid hB
    have HR := Lib.hid hR
    generalize partsT 100 (D + 1) (.mk n l) = R at *
    generalize hm' : l.length = m at *
    have HM := Lib.hid hm'
    clear ih hR h hm' hn
    unfold maxLen at hm
    go_enter Tryz.func49, Tryz.ntmps49
    go_wp2_with fail
    go_loopw [7, 16] (fun d i wr => ∃ k : Nat, k ≤ m ∧ i = .int .i64 k ∧ d = .int .i64 (upN 100 D (l.take k)) ∧ Hid (Gr (w.alloc (.cells #[.string n, .slice p m c] 27)) wr)) (fun _ i _ => m - (intOf i).toNat)
    case atStart => exact ⟨0, Nat.zero_le _, rfl, by rw [U0.out]; rfl, Lib.hid (Gr.refl _)⟩
    case round =>
      obtain ⟨k, hk, rfl, rfl, hg⟩ := hrel
      have hd := UB.out k
      by_cases hlt : k < m
      · obtain ⟨t, b, o, q, d, ht, rfl, hb, c1, c2, hs, hts⟩ := (HR.out.gr ((Gr.alloc _ _).trans hg.out) HB.out) k (by rw [HM.out]; exact hlt)
        obtain ⟨b0, b1, _, _, hbl⟩ := (hg.out.has (Has.new w _ _)).two
        have n1 := NX.out k t ht
        have n2 := PB.out t
        by_cases hst : 100 < upN 100 D (l.take k)
        · have HF := Lib.hid (ST.out k hst)
          clear n1
          go_wp2_with fail
          go_ret
          exact ⟨ret_int (by rw [RT.out, HF.out]), (Gr.alloc _ _).trans hg.out⟩
        · rw [if_neg hst] at n1
          have HD := Lib.hid n1
          have HS := Lib.hid hs
          clear n1 ht hs
          have hst' : upN 100 D (l.take k) ≤ 100 := by omega
          go_wp2_with fail
          refine (IH.out _ _ _ (Nat.le_trans HB.out ((Gr.alloc _ _).trans hg.out).size) HS.out).mono ?_
          rintro e w' ⟨rfl, g2⟩
          have hg2 := Lib.hid (hg.out.trans g2)
          clear g2
          go_wp2_with fail
          go_roundw
          case rel => exact ⟨k + 1, by omega, by go_num, by rw [HD.out]; first | rfl | (congr 1; omega), hg2⟩
          case measure => simp [intOf]; omega
      · obtain rfl : k = m := by omega
        have HF := Lib.hid FL.out
        go_wp2_with fail
        go_ret
        exact ⟨ret_int (by rw [RT.out, HF.out]), (Gr.alloc _ _).trans hg.out⟩
theorem small_any (t : Tm) (B : Nat) (w : World) (sv : Value) (hB : B ≤ w.heap.size) (h : SlIn (· < B) w t.args sv) :
    Calls Tryz.prog 25 #[.agg #[.string t.nm, sv], .int .i64 100] w fun e w' => e = .returned (.bool (decide (partsT 100 100 t ≤ 100))) ∧ Gr w w' := by
  obtain ⟨p, c, rfl, hn, hc, hm, hR⟩ := h.row
  have HC : Hid (Calls Tryz.prog 49 #[.agg #[.string t.nm, .slice p t.args.length c], .int .i64 100, .int .i64 100] (w.alloc (.cells #[.string t.nm, .slice p t.args.length c] 27)) fun e w' => e = .returned (.int .i64 (partsT 100 100 t)) ∧ Gr (w.alloc (.cells #[.string t.nm, .slice p t.args.length c] 27)) w') :=
    Lib.hid (parts_any 100 t B _ _ (by omega) (Nat.le_trans hB (Gr.alloc _ _).size) (h.gr (Gr.alloc _ _) hB))
  clear hR h hn
  go_enter Tryz.func25, Tryz.ntmps25
  go_wp2_with fail
  refine HC.out.mono ?_
  rintro e w' ⟨rfl, g2⟩
  have hg2 := Lib.hid ((Gr.alloc _ _).trans g2)
  clear g2
  go_wp2_with fail
  go_ret
  exact ⟨ret_bool (by rw [Bool.eq_iff_iff]; simp; omega), hg2.out⟩
theorem gr_dr {a b : World} (h : Gr a b) : Gr a b.drew := h.trans (Gr.drew b)
theorem ret_b {a b : Bool} (h : a = b) : Ending.returned (Value.bool a) = Ending.returned (Value.bool b) := by rw [h]
/-- At most 80 bindings, whose terms are small. -/
def SmS (s : List Bd) : Prop := s.length ≤ 80 ∧ ∀ y ∈ s, partsT 100 100 y.2 ≤ 100
def FewS (s : List Bd) (w : World) (e : Ending) (w' : World) : Prop := ∃ b : Bool, e = .returned (.bool b) ∧ (b = true → SmS s) ∧ Gr w w'
set_option maxRecDepth 100000 in
set_option maxHeartbeats 1600000 in
theorem few_any (s : List Bd) (B : Nat) (w : World) (sv : Value) (hB : B ≤ w.heap.size) (hs : SIn (· < B) w s sv) :
    Calls Tryz.prog 12 #[sv] w (FewS s w) := by
  obtain ⟨p, c, rfl, hc, hm, hR⟩ := SIn.row hs
  have hlm : s.length ≤ maxLen := Nat.le_trans hc hm
  unfold maxLen at hlm
  have AT := Lib.hid (fun (t : Tm) (w' : World) (v : Value) (hw : B ≤ w'.heap.size) (h : SlIn (· < B) w' t.args v) => small_any t B w' v hw h)
  have HR := Lib.hid hR
  have HB := Lib.hid hB
  clear hR hs hB hc hm
  generalize hln : s.length = n at *
  have HN := Lib.hid hln
  clear hln
  unfold FewS
  by_cases h8 : 80 < n
  · have h8' : (80 : Int) < n := by omega
    go_enter Tryz.func12, Tryz.ntmps12
    go_wp2_with fail
    go_ret
    exact ⟨false, rfl, (fun h => by cases h), Gr.refl _⟩
  · have h8' : ¬ ((80 : Int) < n) := by omega
    go_enter Tryz.func12, Tryz.ntmps12
    go_wp2_with fail
    go_loopw [3] (fun i wL => ∃ k : Nat, k ≤ n ∧ i = .int .i64 k ∧ Hid (Gr w wL) ∧ Hid (∀ j y, j < k → s[j]? = some y → partsT 100 100 y.2 ≤ 100)) (fun i _ => n - (intOf i).toNat)
    case atStart => exact ⟨0, by omega, rfl, Lib.hid (Gr.refl _), Lib.hid (fun j y h => by omega)⟩
    case round =>
      obtain ⟨k, hk, rfl, hG, hA⟩ := hrel
      by_cases hlt : k < n
      · obtain ⟨x, b, o, q, d, ht, rfl, hb, c1, c2, c3, hs, hts, htv⟩ := (RowS.gr HR.out hG.out HB.out) k (by rw [HN.out]; exact hlt)
        have AK := Lib.hid (AT.out x.2 wr _ (Nat.le_trans HB.out hG.out.size) hs)
        obtain ⟨A2, hA2⟩ : ∃ A2, decide (partsT 100 100 x.2 ≤ 100) = A2 := ⟨_, rfl⟩
        have NX := Lib.hid (fun (h : A2 = true) => show ∀ j y, j < k + 1 → s[j]? = some y → partsT 100 100 y.2 ≤ 100 from fun j y hj hy => by
          by_cases e : j = k
          · subst e
            rw [ht] at hy
            cases hy
            rw [h, decide_eq_true_eq] at hA2
            exact hA2
          · exact hA.out j y (by omega) hy)
        rw [hA2] at AK
        clear ht hs hts hA2
        go_wp2_with fail
        refine AK.out.mono ?_
        rintro e w5 ⟨rfl, g5⟩
        have G5 := Lib.hid (hG.out.trans g5)
        clear g5 c1 c2 c3
        cases A2
        · go_wp2_with fail
          go_ret
          exact ⟨false, rfl, (fun h => by cases h), G5.out⟩
        · have N1 := Lib.hid (NX.out rfl)
          go_wp2_with fail
          go_roundw
          case rel => exact ⟨k + 1, by omega, by go_num, G5, N1⟩
          case measure => simp [intOf] <;> omega
      · obtain rfl : k = n := by omega
        have HS : Hid (SmS s) := Lib.hid ⟨by rw [HN.out]; omega, fun y hy => by
          obtain ⟨j, hj⟩ := List.mem_iff_getElem?.1 hy
          exact hA.out j y (by rw [← HN.out]; exact (List.getElem?_eq_some_iff.1 hj).1) hj⟩
        go_wp2_with fail
        go_ret
        exact ⟨true, rfl, (fun _ => HS.out), hG.out⟩
theorem drop_at {s r : List Bd} {k : Nat} {x y : Bd} (h : s[k]? = some x) (h' : r[k]? = some y) : s.drop k = r.drop k ↔ (x.1 = y.1 ∧ x.2 = y.2) ∧ s.drop (k + 1) = r.drop (k + 1) := by
  obtain ⟨h1, rfl⟩ := List.getElem?_eq_some_iff.1 h
  obtain ⟨h2, rfl⟩ := List.getElem?_eq_some_iff.1 h'
  rw [List.drop_eq_getElem_cons h1, List.drop_eq_getElem_cons h2, List.cons.injEq, Prod.ext_iff]
set_option maxRecDepth 100000 in
set_option maxHeartbeats 3200000 in
theorem same_any (s r : List Bd) (R : Bool) (hRR : R = true ↔ s = r) (B : Nat) (w : World) (sv rv : Value) (hB : B ≤ w.heap.size) (hs : SIn (· < B) w s sv) (hr : SIn (· < B) w r rv) :
    Calls Tryz.prog 28 #[sv, rv] w fun e w' => e = .returned (.bool R) ∧ Gr w w' := by
  obtain ⟨p, c, rfl, hc, hm, hR⟩ := SIn.row hs
  obtain ⟨p', c', rfl, hc', hm', hR'⟩ := SIn.row hr
  have hlm : s.length ≤ maxLen := Nat.le_trans hc hm
  unfold maxLen at hlm
  have HR := Lib.hid hR
  have HR' := Lib.hid hR'
  have HB := Lib.hid hB
  have HQ := Lib.hid hRR
  have L1 := Lib.hid (fun k x y (h : s[k]? = some x) (h' : r[k]? = some y) => drop_at h h')
  have L3 := Lib.hid (fun k (h : s.length ≤ k) (h' : r.length ≤ k) => show s.drop k = r.drop k from by rw [List.drop_eq_nil_of_le h, List.drop_eq_nil_of_le h'])
  clear hs hr hR hR' hB hc hm hc' hm' hRR
  generalize hln : s.length = m at *
  generalize hln' : r.length = m' at *
  have HM := Lib.hid hln
  have HM' := Lib.hid hln'
  clear hln hln'
  by_cases hmm : m = m'
  · subst hmm
    have L0 : Hid (R = true ↔ s.drop 0 = r.drop 0) := Lib.hid (by simpa using HQ.out)
    go_enter Tryz.func28, Tryz.ntmps28
    go_wp2_with fail
    go_loopw [5] (fun i wr => ∃ k : Nat, k ≤ m ∧ i = .int .i64 k ∧ Hid (R = true ↔ s.drop k = r.drop k) ∧ Hid (Gr w wr)) (fun i _ => m - (intOf i).toNat)
    case atStart => exact ⟨0, Nat.zero_le _, rfl, L0, Lib.hid (Gr.refl _)⟩
    case round =>
      obtain ⟨k, hk, rfl, hA, hg⟩ := hrel
      by_cases hlt : k < m
      · obtain ⟨t, b, o, q, d, ht, rfl, hb, c1, c2, c3, hs, hts, htv⟩ := (RowS.gr HR.out hg.out HB.out) k (by rw [HM.out]; exact hlt)
        obtain ⟨t', b', o', q', d', ht', rfl, hb', c1', c2', c3', hs', hts', htv'⟩ := (RowS.gr HR'.out hg.out HB.out) k (by rw [HM'.out]; exact hlt)
        have N1 := Lib.hid (hA.out.trans (L1.out k t t' ht ht'))
        have hgb : b < wr.heap.size := Nat.lt_of_lt_of_le hb (Nat.le_trans HB.out hg.out.size)
        have hgb' : b' < wr.heap.size := Nat.lt_of_lt_of_le hb' (Nat.le_trans HB.out hg.out.size)
        obtain ⟨z, hz⟩ : ∃ z : Bool, Hid (z = true ↔ t.2 = t'.2) := ⟨decide (cmpT t.2 t'.2 = 0), Lib.hid (by rw [decide_eq_true_iff]; exact cmp_zero t.2 t'.2)⟩
        have KK := Lib.hid (fun w2 (g : Gr wr w2) => TermEq.term_any t.2 z B w2 _ t'.2 _ hz.out (Nat.le_trans HB.out (hg.out.trans g).size) (hs.gr g (Nat.le_trans HB.out hg.out.size)) (hs'.gr g (Nat.le_trans HB.out hg.out.size)))
        obtain ⟨zz, hzz⟩ : ∃ zz, (t.1.toList == t'.1.toList) = zz := ⟨_, rfl⟩
        have HZ : Hid (t.1 = t'.1 ↔ zz = true) := Lib.hid (by rw [← hzz, beq_iff_eq, ByteArray.toList_eq, ByteArray.toList_eq]; exact ⟨fun h => by rw [h], bytes_inj⟩)
        have hzz2 : (t.1.toList != t'.1.toList) = !zz := by rw [bne, hzz]
        clear hs hs' hts hts' ht ht' hA HR HR' HB hb hb' L0 L1 htv htv'
        generalize t.2.nm = tn at *
        generalize t'.2.nm = tn' at *
        generalize t.2.args.length = ta at *
        generalize t'.2.args.length = ta' at *
        generalize t.1 = tb at *
        generalize t'.1 = tb' at *
        have Hb : Hid (∀ w', Gr wr w' → w'.cell? ⟨b, o + k * 3, none⟩ = some (.string tb) ∧ w'.cell? ⟨b, o + k * 3 + 1, none⟩ = some (.string tn) ∧ w'.cell? ⟨b, o + k * 3 + 1 + 1, none⟩ = some (.slice q ta d) ∧ w'.cell? ⟨b', o' + k * 3, none⟩ = some (.string tb') ∧ w'.cell? ⟨b', o' + k * 3 + 1, none⟩ = some (.string tn') ∧ w'.cell? ⟨b', o' + k * 3 + 1 + 1, none⟩ = some (.slice q' ta' d') ∧ Hid (Gr wr w')) := Lib.hid (fun w' g => ⟨(g.cell hgb).trans c1, (g.cell hgb).trans c2, (g.cell hgb).trans c3, (g.cell hgb').trans c1', (g.cell hgb').trans c2', (g.cell hgb').trans c3', Lib.hid g⟩)
        cases zz
        · have HF : Hid (R = false) := Lib.hid (by
            cases hR9 : R with
            | false => rfl
            | true => have := HZ.out.1 (N1.out.1 hR9).1.1; cases this)
          clear N1 hz KK Hb HZ
          go_upto_region 6 with fail
          go_cut [41] (fun s41 wx => s41 = .bool true ∧ Hid (Gr wr wx))
          case first =>
            go_quiet (fail)
            all_goals
              go_wp2_with fail
              go_meet
              exact ⟨rfl, Lib.hid (by first | exact Gr.drewN _ _ | exact Gr.drew _ | exact Gr.refl _)⟩
          case rest =>
            obtain ⟨rfl, G5⟩ := hcut
            go_wp2_with fail
            go_ret
            exact ⟨ret_b HF.out.symm, hg.out.trans G5.out⟩
        · have N2 : Hid (R = true ↔ z = true ∧ s.drop (k + 1) = r.drop (k + 1)) := Lib.hid (N1.out.trans ⟨fun hh => ⟨hz.out.2 hh.1.2, hh.2⟩, fun hh => ⟨⟨HZ.out.2 rfl, hz.out.1 hh.1⟩, hh.2⟩⟩)
          clear N1 hz HZ
          go_upto_region 6 with fail
          go_cut [41] (fun s41 wx => s41 = .bool (!z) ∧ Hid (Gr wr wx))
          case first =>
            clear c1 c2 c3 c1' c2' c3' N2 HQ
            have hs0 := Hb.out _ (gr_dr (Gr.refl wr))
            go_region_held3 (fun w' => w'.cell? ⟨b, o + k * 3, none⟩ = some (.string tb) ∧ w'.cell? ⟨b, o + k * 3 + 1, none⟩ = some (.string tn) ∧ w'.cell? ⟨b, o + k * 3 + 1 + 1, none⟩ = some (.slice q ta d) ∧ w'.cell? ⟨b', o' + k * 3, none⟩ = some (.string tb') ∧ w'.cell? ⟨b', o' + k * 3 + 1, none⟩ = some (.string tn') ∧ w'.cell? ⟨b', o' + k * 3 + 1 + 1, none⟩ = some (.slice q' ta' d') ∧ Hid (Gr wr w'))
              (first | (with_reducible assumption) | (with_reducible exact ⟨‹_›, ‹_›, ‹_›, ‹_›, ‹_›, ‹_›, ‹_›⟩) | (with_reducible refine Hb.out _ ?_; repeat (first | (with_reducible exact Hid.out (by assumption)) | (with_reducible exact Gr.refl _) | (with_reducible refine gr_dr ?_) | (with_reducible refine Gr.more ?_ _))))
              (first | (go_at_call 18; (try go_split_ands); (with_reducible refine (KK.out _ (by repeat (first | (with_reducible exact Hid.out (by assumption)) | (with_reducible exact Gr.refl _) | (with_reducible refine gr_dr ?_) | (with_reducible refine Gr.more ?_ _)))).mono ?_); rintro e w4 ⟨rfl, q0⟩; (have qg : Gr wr w4 := by (refine Gr.trans ?_ q0; repeat (first | (with_reducible exact Hid.out (by assumption)) | (with_reducible exact Gr.refl _) | (with_reducible refine gr_dr ?_) | (with_reducible refine Gr.more ?_ _)))); clear q0; obtain ⟨z1, z2, z3, z4, z5, z6, z7⟩ := Hb.out _ qg))
            all_goals
              go_wp2_with fail
              go_meet
              exact ⟨rfl, Lib.hid qg⟩
          case rest =>
            obtain ⟨rfl, G5⟩ := hcut
            cases z
            · have HF : Hid (R = false) := Lib.hid (by
                cases hR9 : R with
                | false => rfl
                | true => have := (N2.out.1 hR9).1; cases this)
              go_wp2_with fail
              go_ret
              exact ⟨ret_b HF.out.symm, hg.out.trans G5.out⟩
            · have N3 : Hid (R = true ↔ s.drop (k + 1) = r.drop (k + 1)) := Lib.hid (N2.out.trans ⟨fun hh => hh.2, fun hh => ⟨rfl, hh⟩⟩)
              go_wp2_with fail
              go_roundw
              case rel => exact ⟨k + 1, by omega, by go_num, N3, Lib.hid (hg.out.trans G5.out)⟩
              case measure => simp [intOf]; omega
      · obtain rfl : k = m := by omega
        have HA2 : Hid (R = true) := Lib.hid (hA.out.2 (L3.out k (Nat.le_refl _) (Nat.le_refl _)))
        go_wp2_with fail
        go_ret
        exact ⟨ret_b HA2.out.symm, hg.out⟩
  · have HF : Hid (R = false) := Lib.hid (by
      cases hR9 : R with
      | false => rfl
      | true =>
        have hh := HQ.out.1 hR9
        have h1 := HM.out
        have h2 := HM'.out
        rw [hh] at h1
        omega)
    have hmi : ((m : Int) == (m' : Int)) = false := by rw [beq_eq_false_iff_ne]; omega
    have hmj : ((m : Int) != (m' : Int)) = true := by rw [bne, hmi]; rfl
    go_enter Tryz.func28, Tryz.ntmps28
    go_wp2_with fail
    go_ret
    exact ⟨ret_b HF.out.symm, Gr.refl _⟩
end UniV
end Go.Proofs.YtjfgnmmcdgpiiaaGreatDoor
