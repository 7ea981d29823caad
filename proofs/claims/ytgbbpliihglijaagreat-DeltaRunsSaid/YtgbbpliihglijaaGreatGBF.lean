/- Texts laid together: TermOr; TermCr. Their own heads stand before each. -/
import Derived.Test.YtgbbpliihglijaaGreatGAD
import Derived.Deep.RegionHeld3
import Derived.Deep.RegionWith
import Derived.Deep.DeepCutAuto
/- The reference's orders of integers, strings; value; class (what tp08/TermO lacks). Condition: names' lengths fit an int. -/
namespace Go.Proofs.YtgbbpliihglijaaGreat
open Go Go.RowKit
namespace TermOr
open LexM TermM TermI Kit TermN TermA TermB TermC TermD TermV TermO
theorem rsign_any (a b : Int) (w : World) : Calls Tryz.prog 96 #[.int .i64 a, .int .i64 b] w fun e w' => e = .returned (.int .i64 (sg a b)) ∧ w = w' := by
  rcases Int.lt_trichotomy a b with h | h | h
  · have HF : Hid (sg a b = -1) := by unfold sg; rw [if_pos h]; exact rfl
    generalize sg a b = R at *
    go_enter Tryz.func96, Tryz.ntmps96
    go_wp2_with fail
    go_ret
    exact ⟨ret_int HF.out.symm, rfl⟩
  · have HF : Hid (sg a b = 0) := by unfold sg; rw [if_neg (by omega), if_neg (by omega)]; exact rfl
    generalize sg a b = R at *
    have h1 : ¬ a < b := by omega
    have h2 : ¬ b < a := by omega
    clear h
    go_enter Tryz.func96, Tryz.ntmps96
    go_wp2_with fail
    go_ret
    exact ⟨ret_int HF.out.symm, rfl⟩
  · have HF : Hid (sg a b = 1) := by unfold sg; rw [if_neg (by omega), if_pos h]; exact rfl
    generalize sg a b = R at *
    have h1 : ¬ a < b := by omega
    go_enter Tryz.func96, Tryz.ntmps96
    go_wp2_with fail
    go_ret
    exact ⟨ret_int HF.out.symm, rfl⟩
theorem rstr_any (a b : ByteArray) (w : World) : Calls Tryz.prog 99 #[.string a, .string b] w fun e w' => e = .returned (.int .i64 (lexB a.data.toList b.data.toList)) ∧ w = w' := by
  have HF := Lib.hid (lex_less a.data.toList b.data.toList)
  rw [← ByteArray.toList_eq, ← ByteArray.toList_eq] at HF ⊢
  have E1 := Lib.hid (less_neg a.toList b.toList)
  have E2 := Lib.hid (less_eq a.toList b.toList)
  generalize lexB a.toList b.toList = R at *
  cases h1 : Op.bytesLess a.toList b.toList
  · cases h2 : Op.bytesLess b.toList a.toList
    · have h3 : (a.toList == b.toList) = true := by simpa using E2.out h1 h2
      have HF2 : Hid (R = 0) := Lib.hid (by have := HF.out; rw [h1, h2] at this; simpa using this)
      clear HF E1 E2
      go_enter Tryz.func99, Tryz.ntmps99
      go_wp2_with fail
      go_ret
      exact ⟨ret_int HF2.out.symm, rfl⟩
    · have h3 : (a.toList == b.toList) = false := by
        cases hc : (a.toList == b.toList)
        · rfl
        · have := (lex_zero a.toList b.toList).2 (by simpa using hc)
          have h4 := lex_less a.toList b.toList
          rw [h1, h2] at h4
          simp at h4
          omega
      have HF2 : Hid (R = 1) := Lib.hid (by have := HF.out; rw [h1, h2] at this; simpa using this)
      clear HF E1 E2
      go_enter Tryz.func99, Tryz.ntmps99
      go_wp2_with fail
      go_ret
      exact ⟨ret_int HF2.out.symm, rfl⟩
  · have HF2 : Hid (R = -1) := Lib.hid (by have := HF.out; rw [h1] at this; simpa using this)
    clear HF E1 E2
    go_enter Tryz.func99, Tryz.ntmps99
    go_wp2_with fail
    go_ret
    exact ⟨ret_int HF2.out.symm, rfl⟩
theorem rval_any (s : ByteArray) (w : World) (hs : s.size ≤ 9223372036854775807) :
    Calls Tryz.prog 98 #[.string s] w fun e w' => e = .returned (.int .i64 (numV s.data.toList)) ∧ w = w' := by
  have C1 := Lib.hid (fun w => rnum_any s w hs)
  generalize isNum s.data.toList = a at *
  generalize numV s.data.toList = v at *
  go_enter Tryz.func98, Tryz.ntmps98
  go_wp2_with (go_at_call 108; refine (C1.out _).mono ?_; rintro e w' ⟨rfl, rfl⟩)
  go_ret
  exact ⟨rfl, rfl⟩
theorem rclass_any (n : ByteArray) (p : Option Addr) (m c : Nat) (w : World) (hs : n.size ≤ 9223372036854775807) :
    Calls Tryz.prog 97 #[.agg #[.string n, .slice p m c]] w fun e w' => e = .returned (.int .i64 (cls n (decide (m = 0)))) ∧ Gr w w' := by
  have C1 := Lib.hid (fun w => risnum_any n w hs)
  have C2 := Lib.hid (fun w => rvar_any n w hs)
  by_cases h0 : m = 0
  · subst h0
    have HF : Hid (cls n (decide ((0 : Nat) = 0)) = if numB n = true then 0 else if varL n.data.toList = true then 2 else 1) := rfl
    generalize cls n (decide ((0 : Nat) = 0)) = R at *
    generalize numB n = a at *
    generalize varL n.data.toList = b at *
    cases a <;> cases b
    all_goals
      go_enter Tryz.func97, Tryz.ntmps97
      go_wp2_with (first | (go_at_call 106; refine (C1.out _).mono ?_; rintro e w' ⟨rfl, rfl⟩) | (go_at_call 107; refine (C2.out _).mono ?_; rintro e w' ⟨rfl, rfl⟩))
      go_ret
      exact ⟨ret_int (by rw [HF.out]; rfl), Gr.alloc _ _⟩
  · have HF : Hid (cls n (decide (m = 0)) = 3) := by rw [decide_eq_false h0]; exact rfl
    generalize cls n (decide (m = 0)) = R at *
    have h1 : (0 : Int) < m := by omega
    go_enter Tryz.func97, Tryz.ntmps97
    go_wp2_with fail
    go_ret
    exact ⟨ret_int HF.out.symm, Gr.alloc _ _⟩
end TermOr
end Go.Proofs.YtgbbpliihglijaaGreat
/- The reference's Compare and CompareList: they answer by the order of terms. -/
namespace Go.Proofs.YtgbbpliihglijaaGreat
open Go Go.RowKit
namespace TermCr
open LexM TermM TermI Kit TermN TermA TermB TermC TermD TermV TermO TermOr TermP TermQ TermR
theorem cmp_r1 {n m : ByteArray} {l r : List Tm} (hc : cls n (decide (l.length = 0)) ≠ cls m (decide (r.length = 0))) : cmpT (.mk n l) (.mk m r) = sg (cls n (decide (l.length = 0))) (cls m (decide (r.length = 0))) ∧ sg (cls n (decide (l.length = 0))) (cls m (decide (r.length = 0))) ≠ 0 := by
  have h : sg (cls n (decide (l.length = 0))) (cls m (decide (r.length = 0))) ≠ 0 := by rw [Ne, sg_zero]; exact hc
  exact ⟨by rw [cmp_def, thn1 h], h⟩
theorem cmp_r2 {n m : ByteArray} {l r : List Tm} (h0 : cls n (decide (l.length = 0)) = 0) (h1 : cls m (decide (r.length = 0)) = 0) : cmpT (.mk n l) (.mk m r) = sg (numV n.data.toList) (numV m.data.toList) := by
  have l0 : l = [] := List.length_eq_zero_iff.1 (of_decide_eq_true (cls_emp _ _ h0).1)
  have r0 : r = [] := List.length_eq_zero_iff.1 (of_decide_eq_true (cls_emp _ _ h1).1)
  rw [cmp_def, cls_num h0, cls_num h1, if_pos h0, h0, h1, sg0, thn0]
  subst l0 r0
  simp only [cmpL]
  unfold thn
  split <;> simp_all
theorem cmp_r4 {n m : ByteArray} {l r : List Tm} (hc : cls n (decide (l.length = 0)) = cls m (decide (r.length = 0))) (h0 : cls n (decide (l.length = 0)) ≠ 0) (hl : l.length = r.length) : cmpT (.mk n l) (.mk m r) = thn (lexB n.data.toList m.data.toList) (cmpL l r) := by
  rw [cmp_def, if_neg h0, ← hc, sg0, thn0, hl, sg0, thn0]
theorem cmpL_stop {l r : List Tm} {k : Nat} (h1 : k ≤ l.length) (h2 : k ≤ r.length) (h : l.length ≤ k ∨ r.length ≤ k) : cmpL (l.drop k) (r.drop k) = sg l.length r.length := by
  unfold sg
  by_cases a : k < l.length
  · have b : r.length ≤ k := by omega
    rw [cmpL_short a b, if_neg (by omega), if_pos (by omega)]
  · rw [cmpL_end (by omega) h2]
    by_cases c : k < r.length
    · rw [if_pos c, if_pos (by omega)]
    · rw [if_neg c, if_neg (by omega), if_neg (by omega)]
set_option maxRecDepth 100000 in
set_option maxHeartbeats 3200000 in
theorem rlist_of (l r : List Tm) (hC : ∀ x ∈ l, CmpT 84 x) (B : Nat) (w : World) (v v' : Value) (hB : B ≤ w.heap.size) (h : SlIn (· < B) w l v) (h' : SlIn (· < B) w r v') :
    Calls Tryz.prog 100 #[v, v'] w fun e w' => e = .returned (.int .i64 (cmpL l r)) ∧ Gr w w' := by
  obtain ⟨p, c, rfl, _, hc, hm, hR⟩ := h.row
  obtain ⟨p', c', rfl, _, hc', hm', hR'⟩ := h'.row
  have hlf : l.length ≤ 9223372036854775807 := Nat.le_trans hc hm
  have hlf' : r.length ≤ 9223372036854775807 := Nat.le_trans hc' hm'
  have HC := Lib.hid hC
  have HR := Lib.hid hR
  have HR' := Lib.hid hR'
  have HB := Lib.hid hB
  have L1 : Hid (∀ k x y, l[k]? = some x → r[k]? = some y → cmpL (l.drop k) (r.drop k) = thn (cmpT x y) (cmpL (l.drop (k + 1)) (r.drop (k + 1)))) := Lib.hid (fun k x y h h' => cmpL_at h h')
  have L2 := Lib.hid (fun k h1 h2 h3 => cmpL_stop (l := l) (r := r) (k := k) h1 h2 h3)
  have L0 : Hid (cmpL l r = cmpL (l.drop 0) (r.drop 0)) := rfl
  have KS := Lib.hid (fun a b w => TermOr.rsign_any a b w)
  generalize cmpL l r = R at *
  generalize hlm : l.length = m at *
  generalize hrm : r.length = m' at *
  have HM := Lib.hid hlm
  have HM' := Lib.hid hrm
  clear hC hR hR' h h' hc hc' hm hm' hlm hrm
  go_enter Tryz.func100, Tryz.ntmps100
  go_wp2_with fail
  go_loopw [5] (fun i wr => ∃ k : Nat, k ≤ m ∧ k ≤ m' ∧ i = .int .i64 k ∧ Hid (R = cmpL (l.drop k) (r.drop k)) ∧ Hid (Gr w wr)) (fun i _ => m - (intOf i).toNat)
  case atStart => exact ⟨0, Nat.zero_le _, Nat.zero_le _, rfl, L0, Lib.hid (Gr.refl _)⟩
  case round =>
    obtain ⟨k, hk, hk', rfl, hA, hg⟩ := hrel
    by_cases hlt : k < m
    · by_cases hlt' : k < m'
      · obtain ⟨t, b, o, q, d, ht, rfl, hb, c1, c2, hs, hts⟩ := (HR.out.gr hg.out HB.out) k (by rw [HM.out]; exact hlt)
        obtain ⟨t', b', o', q', d', ht', rfl, hb', c1', c2', hs', hts'⟩ := (HR'.out.gr hg.out HB.out) k (by rw [HM'.out]; exact hlt')
        have N1 := Lib.hid (L1.out k t t' ht ht')
        have KK := Lib.hid (fun w2 (g : Gr wr w2) => HC.out t (List.mem_of_getElem? ht) B w2 _ t' _ (Nat.le_trans HB.out (hg.out.trans g).size) hts hts' (hs.gr g (Nat.le_trans HB.out hg.out.size)) (hs'.gr g (Nat.le_trans HB.out hg.out.size)))
        clear hs hs' hts hts' ht ht'
        generalize t.nm = tn at *
        generalize t'.nm = tn' at *
        generalize t.args.length = ta at *
        generalize t'.args.length = ta' at *
        generalize cmpT t t' = z at *
        go_upto_region 4 with fail
        go_cut [6] (fun s6 wx => s6 = .int .i64 z ∧ Hid (Gr wr wx))
        case first =>
          clear L1 L2 L0 KS HC HR HR' HB HM HM'
          go_region_with (first | (go_at_call 84; (with_reducible refine (KK.out _ (by first | exact Gr.drew _ | exact Gr.refl _)).mono ?_); rintro e w3 ⟨rfl, g3⟩; have G3 := Lib.hid (Gr.trans (by first | exact Gr.drew _ | exact Gr.refl _) g3 : Gr wr w3); clear g3))
          all_goals
            go_wp2_with fail
            go_meet
            exact ⟨rfl, G3⟩
        case rest =>
          obtain ⟨rfl, G3⟩ := hcut
          by_cases hz : z = 0
          · subst hz
            have HA2 : Hid (R = cmpL (l.drop (k + 1)) (r.drop (k + 1))) := Lib.hid (by rw [hA.out, N1.out]; simp [thn])
            go_wp2_with fail
            go_roundw
            case rel => exact ⟨k + 1, by omega, by omega, by go_num, HA2, Lib.hid (hg.out.trans G3.out)⟩
            case measure => simp [intOf]; omega
          · have hz1 : (z != 0) = true := by simpa using hz
            have HA2 : Hid (R = z) := Lib.hid (by rw [hA.out, N1.out]; simp [thn, hz])
            clear hz
            go_wp2_with fail
            go_ret
            exact ⟨ret_int HA2.out.symm, hg.out.trans G3.out⟩
      · have HA2 := Lib.hid (hA.out.trans (L2.out k hk hk' (.inr (by omega))))
        have K2 := Lib.hid (KS.out m m' wr)
        generalize sg m m' = z at *
        go_wp2_with fail
        refine K2.out.mono ?_
        rintro e w3 ⟨rfl, rfl⟩
        go_wp2_with fail
        go_ret
        exact ⟨ret_int HA2.out.symm, hg.out⟩
    · have HA2 := Lib.hid (hA.out.trans (L2.out k hk hk' (.inl (by omega))))
      have K2 := Lib.hid (KS.out m m' wr)
      generalize sg m m' = z at *
      go_wp2_with fail
      refine K2.out.mono ?_
      rintro e w3 ⟨rfl, rfl⟩
      go_wp2_with fail
      go_ret
      exact ⟨ret_int HA2.out.symm, hg.out⟩
set_option maxRecDepth 100000 in
set_option maxHeartbeats 6400000 in
theorem rcmp_any (x : Tm) : CmpT 84 x := by
  induction x using Tm.ind with
  | h n l ih =>
    rintro B w sv ⟨m, r⟩ sv' hB hn hm h h'
    dsimp only [Tm.args, Tm.nm] at h h' hn hm ⊢
    have LS := Lib.hid (fun w hB h h' => rlist_of l r ih B w sv sv' hB h h')
    obtain ⟨p, c, rfl, _, hc, hcm, hR⟩ := h.row
    obtain ⟨p', c', rfl, _, hc', hcm', hR'⟩ := h'.row
    have hlf : l.length ≤ 9223372036854775807 := Nat.le_trans hc hcm
    have hlf' : r.length ≤ 9223372036854775807 := Nat.le_trans hc' hcm'
    have hn' : n.size ≤ 9223372036854775807 := Nat.le_trans hn (by unfold maxLen; omega)
    have hm' : m.size ≤ 9223372036854775807 := Nat.le_trans hm (by unfold maxLen; omega)
    have K1 := Lib.hid (fun w => TermOr.rclass_any n p l.length c w hn')
    have K2 := Lib.hid (fun w => TermOr.rclass_any m p' r.length c' w hm')
    have V1 := Lib.hid (fun w => TermOr.rval_any n w hn')
    have V2 := Lib.hid (fun w => TermOr.rval_any m w hm')
    have KL := Lib.hid (fun w => TermOr.rsign_any l.length r.length w)
    have KSt := Lib.hid (fun w => TermOr.rstr_any n m w)
    have KN := Lib.hid (fun w => TermOr.rsign_any (numV n.data.toList) (numV m.data.toList) w)
    have KC := Lib.hid (fun w => TermOr.rsign_any (cls n (decide (l.length = 0))) (cls m (decide (r.length = 0))) w)
    have X1 := Lib.hid (fun h1 => cmp_r1 (n := n) (m := m) (l := l) (r := r) h1)
    have X2 := Lib.hid (fun h1 h2 => cmp_r2 (n := n) (m := m) (l := l) (r := r) h1 h2)
    have X3 := Lib.hid (fun h1 h2 => cmp_len (n := n) (m := m) (l := l) (r := r) h1 h2)
    have X4 := Lib.hid (fun h1 h2 h3 => cmp_r4 (n := n) (m := m) (l := l) (r := r) h1 h2 h3)
    have X5 : Hid (∀ a : Int, sg a a = 0) := Lib.hid sg0
    generalize cls n (decide (l.length = 0)) = cx at *
    generalize cls m (decide (r.length = 0)) = cy at *
    generalize cmpT (.mk n l) (.mk m r) = R at *
    generalize numV n.data.toList = vn at *
    generalize numV m.data.toList = vm at *
    generalize lexB n.data.toList m.data.toList = lx at *
    generalize cmpL l r = cl at *
    have HS := Lib.hid h
    have HS' := Lib.hid h'
    have HB := Lib.hid hB
    generalize l.length = a at *
    generalize r.length = b at *
    generalize hsc : sg cx cy = sc at *
    generalize sg vn vm = sv at *
    generalize sg (a : Int) b = sl at *
    have HSC := Lib.hid hsc
    clear hR hR' h h' ih hc hc' hcm hcm' hn hm hn' hm' hsc
    go_enter Tryz.func84, Tryz.ntmps84
    go_upto_region 1 with fail
    obtain ⟨W0, hW0⟩ : ∃ W0, W0 = (w.alloc (.cells #[.string n, .slice p a c] 58)).alloc (.cells #[.string m, .slice p' b c'] 58) := ⟨_, rfl⟩
    rw [← hW0]
    have G0 : Hid (Gr w W0) := Lib.hid (by rw [hW0]; exact (Gr.alloc _ _).more _)
    have HA : Hid (Has W0 w.heap.size #[.string n, .slice p a c] ∧ Has W0 (w.heap.size + 1) #[.string m, .slice p' b c']) := Lib.hid (by rw [hW0]; exact ⟨(Has.new _ _ _).alloc _, Has.new1 _ _ _ _⟩)
    clear hW0
    have Hb : Hid (∀ w', Gr W0 w' → w'.cell? ⟨w.heap.size, 0, none⟩ = some (.string n) ∧ w'.cell? ⟨w.heap.size, 1, none⟩ = some (.slice p a c) ∧ w'.cell? ⟨w.heap.size + 1, 0, none⟩ = some (.string m) ∧ w'.cell? ⟨w.heap.size + 1, 1, none⟩ = some (.slice p' b c') ∧ Hid (Gr W0 w') ∧ W0.heap.size ≤ w'.heap.size) := Lib.hid (fun w' hg => by
      obtain ⟨q1, q2, _⟩ := (hg.has HA.out.1).two
      obtain ⟨q3, q4, _⟩ := (hg.has HA.out.2).two
      exact ⟨q1, q2, q3, q4, Lib.hid hg, hg.size⟩)
    go_cut [5] (fun s5 wx => s5 = .int .i64 sc ∧ Hid (Gr W0 wx))
    case first =>
      have hs0 := Hb.out _ (Gr.drew W0)
      clear LS V1 V2 KL KSt KN X1 X2 X3 X4 X5 HS HS' HB HSC hB HA G0
      go_region_held3 (fun w' => w'.cell? ⟨w.heap.size, 0, none⟩ = some (.string n) ∧ w'.cell? ⟨w.heap.size, 1, none⟩ = some (.slice p a c) ∧ w'.cell? ⟨w.heap.size + 1, 0, none⟩ = some (.string m) ∧ w'.cell? ⟨w.heap.size + 1, 1, none⟩ = some (.slice p' b c') ∧ Hid (Gr W0 w') ∧ W0.heap.size ≤ w'.heap.size)
        (first | (with_reducible assumption) | (with_reducible exact ⟨‹_›, ‹_›, ‹_›, ‹_›, ‹_›, ‹_›⟩) | (with_reducible refine Hb.out _ ?_; repeat (first | (with_reducible exact Hid.out (by assumption)) | (with_reducible exact Gr.refl _) | (with_reducible refine Gr.dr ?_) | (with_reducible refine Gr.more ?_ _))))
        (first | (go_at_call 97; (try go_split_ands); (with_reducible refine (K1.out _).mono ?_); rintro e w' ⟨rfl, q0⟩; (have qg : Gr W0 w' := by (refine Gr.trans ?_ q0; repeat (first | (with_reducible exact Hid.out (by assumption)) | (with_reducible exact Gr.refl _) | (with_reducible refine Gr.dr ?_) | (with_reducible refine Gr.more ?_ _)))); clear q0; obtain ⟨z1, z2, z3, z4, z5, z6⟩ := Hb.out _ qg) | (go_at_call 97; (try go_split_ands); (with_reducible refine (K2.out _).mono ?_); rintro e w' ⟨rfl, q0⟩; (have qg : Gr W0 w' := by (refine Gr.trans ?_ q0; repeat (first | (with_reducible exact Hid.out (by assumption)) | (with_reducible exact Gr.refl _) | (with_reducible refine Gr.dr ?_) | (with_reducible refine Gr.more ?_ _)))); clear q0; obtain ⟨z1, z2, z3, z4, z5, z6⟩ := Hb.out _ qg) | (go_at_call 96; (try go_split_ands); (with_reducible refine (KC.out _).mono ?_); rintro e w' ⟨rfl, rfl⟩))
      all_goals
        go_wp2_with fail
        go_meet
        exact ⟨rfl, by first | with_reducible assumption | exact Lib.hid qg⟩
    case rest =>
      obtain ⟨rfl, hg⟩ := hcut
      obtain ⟨z1, z2, z3, z4, z5, z6⟩ := Hb.out _ hg.out
      have GW := Lib.hid (G0.out.trans hg.out)
      clear KC HA
      by_cases hcc : cx = cy
      · subst hcc
        have h0 : sc = 0 := by rw [← HSC.out]; exact X5.out _
        subst h0
        by_cases h0 : cx = 0
        · have HF := Lib.hid (X2.out h0 h0)
          subst h0
          clear X1 X2 X3 X4 KL KSt LS
          go_wp2_with fail
          refine (K1.out _).mono ?_
          rintro e w4 ⟨rfl, g⟩
          have G4 : Hid (Gr W0 w4) := Lib.hid (hg.out.trans g)
          clear g z1 z2 z3 z4 z5 z6
          obtain ⟨z1, z2, z3, z4, z5, z6⟩ := Hb.out _ G4.out
          go_upto_region 5 with fail
          go_cut [4] (fun s4 wx => s4 = .int .i64 sv ∧ Hid (Gr W0 wx))
          case first =>
            have hs0 := Hb.out _ (TermR.Gr.dr G4.out)
            clear HS HS' HB HSC hB G0 K1 K2 GW HF
            go_region_held3 (fun w' => w'.cell? ⟨w.heap.size, 0, none⟩ = some (.string n) ∧ w'.cell? ⟨w.heap.size, 1, none⟩ = some (.slice p a c) ∧ w'.cell? ⟨w.heap.size + 1, 0, none⟩ = some (.string m) ∧ w'.cell? ⟨w.heap.size + 1, 1, none⟩ = some (.slice p' b c') ∧ Hid (Gr W0 w') ∧ W0.heap.size ≤ w'.heap.size)
              (first | (with_reducible assumption) | (with_reducible exact ⟨‹_›, ‹_›, ‹_›, ‹_›, ‹_›, ‹_›⟩) | (with_reducible refine Hb.out _ ?_; repeat (first | (with_reducible exact Hid.out (by assumption)) | (with_reducible exact Gr.refl _) | (with_reducible refine Gr.dr ?_) | (with_reducible refine Gr.more ?_ _))))
              (first | (go_at_call 98; (try go_split_ands); (with_reducible refine (V1.out _).mono ?_); rintro e w' ⟨rfl, rfl⟩) | (go_at_call 98; (try go_split_ands); (with_reducible refine (V2.out _).mono ?_); rintro e w' ⟨rfl, rfl⟩) | (go_at_call 96; (try go_split_ands); (with_reducible refine (KN.out _).mono ?_); rintro e w' ⟨rfl, rfl⟩))
            all_goals
              go_wp2_with fail
              go_meet
              exact ⟨rfl, by first | with_reducible assumption | exact Lib.hid qg⟩
          case rest =>
            obtain ⟨rfl, hg5⟩ := hcut
            go_wp2_with fail
            go_ret
            exact ⟨ret_int HF.out.symm, G0.out.trans hg5.out⟩
        · have e0 : (cx == 0) = false := by simpa using h0
          by_cases hl : a = b
          · have HF := Lib.hid (X4.out rfl h0 hl)
            subst hl
            clear h0 X1 X2 X3 X4 V1 V2 KN KL
            go_wp2_with fail
            refine (K1.out _).mono ?_
            rintro e w4 ⟨rfl, g⟩
            have G4 : Hid (Gr W0 w4) := Lib.hid (hg.out.trans g)
            clear g z1 z2 z3 z4 z5 z6
            obtain ⟨z1, z2, z3, z4, z5, z6⟩ := Hb.out _ G4.out
            go_wp2_with fail
            refine (KSt.out _).mono ?_
            rintro e w5 ⟨rfl, rfl⟩
            by_cases hx : lx = 0
            · subst hx
              have HF2 : Hid (R = cl) := Lib.hid (by rw [HF.out]; simp [thn])
              have G5 := Lib.hid (G0.out.trans G4.out)
              go_wp2_with fail
              refine (LS.out _ (Nat.le_trans HB.out G5.out.size) (HS.out.gr G5.out HB.out) (HS'.out.gr G5.out HB.out)).mono ?_
              rintro e w6 ⟨rfl, g⟩
              have G6 := Lib.hid (G5.out.trans g)
              clear g
              go_wp2_with fail
              go_ret
              exact ⟨ret_int HF2.out.symm, G6.out⟩
            · have hx1 : (lx != 0) = true := by simpa using hx
              have HF2 : Hid (R = lx) := Lib.hid (by rw [HF.out]; simp [thn, hx])
              clear hx HF
              go_wp2_with fail
              go_ret
              exact ⟨ret_int HF2.out.symm, G0.out.trans G4.out⟩
          · have HF := Lib.hid (X3.out rfl hl)
            have hl1 : ((a : Int) != b) = true := bne_iff_ne.2 (by omega)
            have hl2 : ((a : Int) == b) = false := beq_eq_false_iff_ne.2 (by omega)
            clear h0 hl X1 X2 X3 X4 V1 V2 KN KSt LS
            go_wp2_with fail
            refine (K1.out _).mono ?_
            rintro e w4 ⟨rfl, g⟩
            have G4 : Hid (Gr W0 w4) := Lib.hid (hg.out.trans g)
            clear g z1 z2 z3 z4 z5 z6
            obtain ⟨z1, z2, z3, z4, z5, z6⟩ := Hb.out _ G4.out
            go_wp2_with fail
            refine (KL.out _).mono ?_
            rintro e w5 ⟨rfl, rfl⟩
            go_wp2_with fail
            go_ret
            exact ⟨ret_int HF.out.symm, G0.out.trans G4.out⟩
      · obtain ⟨HF, hne⟩ := X1.out hcc
        have hne1 : (sc != 0) = true := by simpa using hne
        have HF2 := Lib.hid HF
        clear HF hne hcc X1 X2 X3 X4 V1 V2 KN KSt KL LS HSC
        go_wp2_with fail
        go_ret
        exact ⟨ret_int HF2.out.symm, GW.out⟩
theorem rcmplist_any (l r : List Tm) (B : Nat) (w : World) (v v' : Value) (hB : B ≤ w.heap.size) (h : SlIn (· < B) w l v) (h' : SlIn (· < B) w r v') :
    Calls Tryz.prog 100 #[v, v'] w fun e w' => e = .returned (.int .i64 (cmpL l r)) ∧ Gr w w' :=
  rlist_of l r (fun x _ => rcmp_any x) B w v v' hB h h'
end TermCr
end Go.Proofs.YtgbbpliihglijaaGreat
