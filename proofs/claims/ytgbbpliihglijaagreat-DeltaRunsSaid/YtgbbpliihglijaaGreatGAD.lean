/- Texts laid together: TermO; TermP; TermQ; TermR. Their own heads stand before each. -/
import Derived.Test.YtgbbpliihglijaaGreatGAC
import Derived.WalkLawsBesides
import Derived.Deep.RegionHeld3
import Derived.Deep.DeepCutAuto
import Derived.Lib.QuietBelow
import Derived.Deep.RegionWith
/- Orders of integers, of strings, of classes: the code's and the reference's. Condition: names' lengths fit an int. -/
namespace Go.Proofs.YtgbbpliihglijaaGreat
open Go Go.RowKit
namespace TermO
open LexM TermM TermI Kit TermN TermA TermB TermC TermD TermV
theorem nanI_any (a : Int) (w : World) : Calls Tryz.prog 89 #[.int .i64 a] w fun e w' => e = .returned (.bool false) ∧ w = w' := by
  go_enter Tryz.func89, Tryz.ntmps89
  go_wp2_with fail
  go_ret
  exact ⟨ret_bool (by simp), rfl⟩
theorem nanS_any (a : ByteArray) (w : World) : Calls Tryz.prog 103 #[.string a] w fun e w' => e = .returned (.bool false) ∧ w = w' := by
  go_enter Tryz.func103, Tryz.ntmps103
  go_wp2_with fail
  go_ret
  exact ⟨ret_bool (by simp), rfl⟩
theorem cmpI_any (a b : Int) (w : World) : Calls Tryz.prog 77 #[.int .i64 a, .int .i64 b] w fun e w' => e = .returned (.int .i64 (sg a b)) ∧ w = w' := by
  have N := Lib.hid (fun a w => nanI_any a w)
  rcases Int.lt_trichotomy a b with h | h | h
  · have HF : Hid (sg a b = -1) := by unfold sg; rw [if_pos h]; exact rfl
    generalize sg a b = R at *
    go_enter Tryz.func77, Tryz.ntmps77
    go_wp2_with (go_at_call 89; refine (N.out _ _).mono ?_; rintro e w' ⟨rfl, rfl⟩)
    go_ret
    exact ⟨ret_int HF.out.symm, rfl⟩
  · have HF : Hid (sg a b = 0) := by unfold sg; rw [if_neg (by omega), if_neg (by omega)]; exact rfl
    generalize sg a b = R at *
    have h1 : ¬ a < b := by omega
    have h2 : ¬ b < a := by omega
    clear h
    go_enter Tryz.func77, Tryz.ntmps77
    go_wp2_with (go_at_call 89; refine (N.out _ _).mono ?_; rintro e w' ⟨rfl, rfl⟩)
    go_ret
    exact ⟨ret_int HF.out.symm, rfl⟩
  · have HF : Hid (sg a b = 1) := by unfold sg; rw [if_neg (by omega), if_pos h]; exact rfl
    generalize sg a b = R at *
    have h1 : ¬ a < b := by omega
    go_enter Tryz.func77, Tryz.ntmps77
    go_wp2_with (go_at_call 89; refine (N.out _ _).mono ?_; rintro e w' ⟨rfl, rfl⟩)
    go_ret
    exact ⟨ret_int HF.out.symm, rfl⟩
theorem less_neg : ∀ x y : List UInt8, Op.bytesLess x y = true → Op.bytesLess y x = false := by
  intro x y h
  have h1 := lex_less x y
  have h2 := lex_less y x
  have h3 := lex_neg x y
  rw [if_pos h] at h1
  cases hc : Op.bytesLess y x
  · rfl
  · rw [if_pos hc] at h2; omega
theorem less_eq : ∀ x y : List UInt8, Op.bytesLess x y = false → Op.bytesLess y x = false → x = y := by
  intro x y h1 h2
  have h := lex_less x y
  rw [h1, h2] at h
  exact (lex_zero x y).1 (by simpa using h)
theorem cmpS_any (a b : ByteArray) (w : World) : Calls Tryz.prog 91 #[.string a, .string b] w fun e w' => e = .returned (.int .i64 (lexB a.data.toList b.data.toList)) ∧ w = w' := by
  have N := Lib.hid (fun a w => nanS_any a w)
  have HF := Lib.hid (lex_less a.data.toList b.data.toList)
  rw [← ByteArray.toList_eq, ← ByteArray.toList_eq] at HF ⊢
  have E1 := Lib.hid (less_neg a.toList b.toList)
  have E2 := Lib.hid (less_eq a.toList b.toList)
  generalize lexB a.toList b.toList = R at *
  cases h1 : Op.bytesLess a.toList b.toList
  · cases h2 : Op.bytesLess b.toList a.toList
    · have h3 : (a.toList == b.toList) = true := by simpa using E2.out h1 h2
      have HF2 : Hid (R = 0) := Lib.hid (by have := HF.out; rw [h1, h2] at this; simpa using this)
      clear HF E1 E2
      go_enter Tryz.func91, Tryz.ntmps91
      go_wp2_with (go_at_call 103; refine (N.out _ _).mono ?_; rintro e w' ⟨rfl, rfl⟩)
      go_ret
      exact ⟨ret_int HF2.out.symm, rfl⟩
    · have h3 : (a.toList == b.toList) = false := by
        cases hc : (a.toList == b.toList)
        · rfl
        · have := (lex_zero a.toList b.toList).2 (by simpa using hc)
          have h4 := lex_less a.toList b.toList
          rw [h1, h2] at h4
          simp at h4
          omega
      have HF2 : Hid (R = 1) := Lib.hid (by have := HF.out; rw [h1, h2] at this; simpa using this)
      clear HF E1 E2
      go_enter Tryz.func91, Tryz.ntmps91
      go_wp2_with (go_at_call 103; refine (N.out _ _).mono ?_; rintro e w' ⟨rfl, rfl⟩)
      go_ret
      exact ⟨ret_int HF2.out.symm, rfl⟩
  · have HF2 : Hid (R = -1) := Lib.hid (by have := HF.out; rw [h1] at this; simpa using this)
    clear HF E1 E2
    go_enter Tryz.func91, Tryz.ntmps91
    go_wp2_with (go_at_call 103; refine (N.out _ _).mono ?_; rintro e w' ⟨rfl, rfl⟩)
    go_ret
    exact ⟨ret_int HF2.out.symm, rfl⟩
theorem class_any (n : ByteArray) (p : Option Addr) (m c : Nat) (w : World) (hs : n.size ≤ 9223372036854775807) :
    Calls Tryz.prog 88 #[.agg #[.string n, .slice p m c]] w fun e w' => e = .returned (.int .i64 (cls n (decide (m = 0)))) ∧ Gr w w' := by
  have C1 := Lib.hid (fun w => num_any n w hs)
  have C2 := Lib.hid (fun w => var_any n w hs)
  by_cases h0 : m = 0
  · subst h0
    have HF : Hid (cls n (decide ((0 : Nat) = 0)) = if isNum n.data.toList = true then 0 else if varL n.data.toList = true then 2 else 1) := rfl
    generalize cls n (decide ((0 : Nat) = 0)) = R at *
    generalize isNum n.data.toList = a at *
    generalize varL n.data.toList = b at *
    generalize numV n.data.toList = v at *
    cases a <;> cases b
    all_goals
      go_enter Tryz.func88, Tryz.ntmps88
      go_wp2_with (first | (go_at_call 90; refine (C1.out _).mono ?_; rintro e w' ⟨rfl, rfl⟩) | (go_at_call 87; refine (C2.out _).mono ?_; rintro e w' ⟨rfl, rfl⟩))
      go_ret
      exact ⟨ret_int (by rw [HF.out]; rfl), Gr.alloc _ _⟩
  · have HF : Hid (cls n (decide (m = 0)) = 3) := by rw [decide_eq_false h0]; exact rfl
    generalize cls n (decide (m = 0)) = R at *
    have h1 : (0 : Int) < m := by omega
    go_enter Tryz.func88, Tryz.ntmps88
    go_wp2_with fail
    go_ret
    exact ⟨ret_int HF.out.symm, Gr.alloc _ _⟩
end TermO
end Go.Proofs.YtgbbpliihglijaaGreat
/- The code's Compare: heads, lists. -/
namespace Go.Proofs.YtgbbpliihglijaaGreat
open Go Go.RowKit
namespace TermP
open LexM TermM TermI Kit TermN TermA TermB TermC TermD TermV TermO
theorem Gr.grow {w w' : World} (h : Gr w w') : ∃ q os, w' = Sort.grow (w.drewN q) os := by
  obtain ⟨p, hp⟩ := regrown_of_below h.1
  have hd := h.2
  refine ⟨p.d - w.drawn, p.os, ?_⟩
  have e : w'.drawn = p.d := by rw [hp]; rfl
  rw [hp]
  have : redrawn w p.d = w.drewN (p.d - w.drawn) := by
    unfold redrawn World.drewN
    congr 1
    omega
  rw [this]
set_option maxRecDepth 100000 in
set_option maxHeartbeats 3200000 in
theorem head_any (n : ByteArray) (p : Option Addr) (m c : Nat) (w : World) (hs : n.size ≤ 9223372036854775807) :
    Calls Tryz.prog 76 #[.agg #[.string n, .slice p m c]] w fun e w' => e = .returned (.agg #[.int .i64 (cls n (decide (m = 0))), .string n]) ∧ Gr w w' := by
  have K := Lib.hid (fun w => class_any n p m c w hs)
  generalize cls n (decide (m = 0)) = R at *
  go_enter Tryz.func76, Tryz.ntmps76
  go_wp2_with fail
  have HA : Hid (∀ w', Gr ((w.alloc (.cells #[.string n, .slice p m c] 58)).alloc (.cells #[.int .i64 0, .string ⟨#[]⟩] 109)) w' → Has w' w.heap.size #[.string n, .slice p m c] ∧ Has w' (w.heap.size + 1) #[.int .i64 0, .string ⟨#[]⟩]) := Lib.hid (fun w' h => ⟨h.has ((Has.new _ _ _).alloc _), h.has (Has.new1 _ _ _ _)⟩)
  go_region_with (first | (go_at_call 88; refine (K.out _).mono ?_; rintro e w' ⟨rfl, g⟩; have g' := Lib.hid ((Gr.drew _).trans g); clear g; obtain ⟨h1, h2⟩ := HA.out _ g'.out; obtain ⟨b0, b1, _, _, bl⟩ := h1.two; obtain ⟨b2, b3, f2, f3, bl2⟩ := h2.two; have h2' := Lib.hid h2; clear h1 h2))
  all_goals
    go_wp2_with fail
    have r0 := h2'.out.put0 (.int .i64 R) (.string n)
    have r1 := h2'.out.put1 (.int .i64 R) (.string n)
    have hG : Gr w ((w'.setCell ⟨w.heap.size + 1, 0, none⟩ (.int .i64 R)).setCell ⟨w.heap.size + 1, 1, none⟩ (.string n)) := ((((Gr.alloc w _).more _).trans g'.out).put (by simp) _).put (by simp) _
    have hG := Lib.hid hG
    refine bodyPost_ret (v := .agg #[.int .i64 R, .string n]) (by simp [results, Tryz.results76, go_sem, b2, b3]) rfl ?_
    exact ⟨rfl, hG.out⟩
def headF (a : Int) (n : ByteArray) (b : Int) (m : ByteArray) : Int := if a ≠ b then sg a b else if a = 0 then sg (numV n.data.toList) (numV m.data.toList) else lexB n.data.toList m.data.toList
theorem heads_any (a b : Int) (n m : ByteArray) (w : World) (hn : n.size ≤ 9223372036854775807) (hm : m.size ≤ 9223372036854775807) :
    Calls Tryz.prog 78 #[.agg #[.int .i64 a, .string n], .agg #[.int .i64 b, .string m]] w fun e w' => e = .returned (.int .i64 (headF a n b m)) ∧ Gr w w' := by
  have KI := Lib.hid (fun a b w => cmpI_any a b w)
  have KS := Lib.hid (fun w => cmpS_any n m w)
  have N1 := Lib.hid (fun w => num_any n w hn)
  have N2 := Lib.hid (fun w => num_any m w hm)
  have HF : Hid (headF a n b m = if a ≠ b then sg a b else if a = 0 then sg (numV n.data.toList) (numV m.data.toList) else lexB n.data.toList m.data.toList) := rfl
  generalize headF a n b m = R at *
  generalize isNum n.data.toList = x1 at *
  generalize isNum m.data.toList = x2 at *
  generalize numV n.data.toList = y1 at *
  generalize numV m.data.toList = y2 at *
  generalize lexB n.data.toList m.data.toList = L at *
  by_cases hab : a = b
  · subst hab
    by_cases h0 : a = 0
    · subst h0
      go_enter Tryz.func78, Tryz.ntmps78
      go_wp2_with fail
      refine (N1.out _).mono ?_
      rintro e w' ⟨rfl, rfl⟩
      go_wp2_with fail
      refine (N2.out _).mono ?_
      rintro e w' ⟨rfl, rfl⟩
      go_wp2_with fail
      refine (KI.out _ _ _).mono ?_
      rintro e w' ⟨rfl, rfl⟩
      go_wp2_with fail
      go_ret
      exact ⟨ret_int (by rw [HF.out]; simp), (Gr.alloc _ _).more _⟩
    · have h1 : (a == 0) = false := by simpa using h0
      go_enter Tryz.func78, Tryz.ntmps78
      go_wp2_with fail
      refine (KS.out _).mono ?_
      rintro e w' ⟨rfl, rfl⟩
      go_wp2_with fail
      go_ret
      exact ⟨ret_int (by rw [HF.out, if_neg (by simp), if_neg h0]), (Gr.alloc _ _).more _⟩
  · have h1 : (a != b) = true := by simpa using hab
    go_enter Tryz.func78, Tryz.ntmps78
    go_wp2_with fail
    refine (KI.out _ _ _).mono ?_
    rintro e w' ⟨rfl, rfl⟩
    go_wp2_with fail
    go_ret
    exact ⟨ret_int (by rw [HF.out, if_pos hab]), (Gr.alloc _ _).more _⟩
end TermP
end Go.Proofs.YtgbbpliihglijaaGreat
/- The code's Compare and CompareList: they answer by the order of terms. -/
namespace Go.Proofs.YtgbbpliihglijaaGreat
open Go Go.RowKit
namespace TermQ
open LexM TermM TermI Kit TermN TermA TermB TermC TermD TermV TermO TermP
/-- What a function that compares terms answers, at a first term. -/
def CmpT (f : FuncId) (x : Tm) : Prop := ∀ (B : Nat) (w : World) (sv : Value) (y : Tm) (sv' : Value), B ≤ w.heap.size → x.nm.size ≤ maxLen → y.nm.size ≤ maxLen → SlIn (· < B) w x.args sv → SlIn (· < B) w y.args sv' →
  Calls Tryz.prog f #[.agg #[.string x.nm, sv], .agg #[.string y.nm, sv']] w fun e w' => e = .returned (.int .i64 (cmpT x y)) ∧ Gr w w'
theorem drop_get {α : Type} {l : List α} {k : Nat} {x : α} (h : l[k]? = some x) : l.drop k = x :: l.drop (k + 1) := by
  obtain ⟨hk, rfl⟩ := List.getElem?_eq_some_iff.1 h
  exact List.drop_eq_getElem_cons hk
theorem cmpL_at {l r : List Tm} {k : Nat} {x y : Tm} (h : l[k]? = some x) (h' : r[k]? = some y) : cmpL (l.drop k) (r.drop k) = thn (cmpT x y) (cmpL (l.drop (k + 1)) (r.drop (k + 1))) := by
  rw [drop_get h, drop_get h']; simp only [cmpL]
theorem cmpL_short {l r : List Tm} {k : Nat} (h : k < l.length) (h' : r.length ≤ k) : cmpL (l.drop k) (r.drop k) = 1 := by
  rw [List.drop_eq_nil_of_le h', List.drop_eq_getElem_cons h]; simp only [cmpL]
theorem cmpL_end {l r : List Tm} {k : Nat} (h : l.length ≤ k) (h' : k ≤ r.length) : cmpL (l.drop k) (r.drop k) = if k < r.length then -1 else 0 := by
  rw [List.drop_eq_nil_of_le h]
  split
  · rename_i hk; rw [List.drop_eq_getElem_cons hk]; simp only [cmpL]
  · rw [List.drop_eq_nil_of_le (by omega)]; simp only [cmpL]
set_option maxRecDepth 100000 in
set_option maxHeartbeats 3200000 in
theorem func_any (l r : List Tm) (hC : ∀ x ∈ l, CmpT 59 x) (B : Nat) (w : World) (v v' : Value) (hB : B ≤ w.heap.size) (h : SlIn (· < B) w l v) (h' : SlIn (· < B) w r v') :
    Calls Tryz.prog 92 #[v, v', .func (.func 59) #[] #[]] w fun e w' => e = .returned (.int .i64 (cmpL l r)) ∧ Gr w w' := by
  obtain ⟨p, c, rfl, _, hc, hm, hR⟩ := h.row
  obtain ⟨p', c', rfl, _, hc', hm', hR'⟩ := h'.row
  have hlf : l.length ≤ 9223372036854775807 := Nat.le_trans hc hm
  have hlf' : r.length ≤ 9223372036854775807 := Nat.le_trans hc' hm'
  have HC := Lib.hid hC
  have HR := Lib.hid hR
  have HR' := Lib.hid hR'
  have HB := Lib.hid hB
  have L1 : Hid (∀ k x y, l[k]? = some x → r[k]? = some y → cmpL (l.drop k) (r.drop k) = thn (cmpT x y) (cmpL (l.drop (k + 1)) (r.drop (k + 1)))) := Lib.hid (fun k x y h h' => cmpL_at h h')
  have L2 : Hid (∀ k, k < l.length → r.length ≤ k → cmpL (l.drop k) (r.drop k) = 1) := Lib.hid (fun k h h' => cmpL_short h h')
  have L3 : Hid (∀ k, l.length ≤ k → k ≤ r.length → cmpL (l.drop k) (r.drop k) = if k < r.length then -1 else 0) := Lib.hid (fun k h h' => cmpL_end h h')
  have L0 : Hid (cmpL l r = cmpL (l.drop 0) (r.drop 0)) := rfl
  generalize cmpL l r = R at *
  generalize hlm : l.length = m at *
  generalize hrm : r.length = m' at *
  have HM := Lib.hid hlm
  have HM' := Lib.hid hrm
  clear hC hR hR' h h' hc hc' hm hm' hlm hrm
  go_enter Tryz.func92, Tryz.ntmps92
  go_wp2_with fail
  go_loopw [13] (fun i wr => ∃ k : Nat, k ≤ m ∧ k ≤ m' ∧ i = .int .i64 k ∧ Hid (R = cmpL (l.drop k) (r.drop k)) ∧ Hid (Gr w wr)) (fun i _ => m - (intOf i).toNat)
  case atStart => exact ⟨0, Nat.zero_le _, Nat.zero_le _, rfl, L0, Lib.hid (Gr.refl _)⟩
  case round =>
    obtain ⟨k, hk, hk', rfl, hA, hg⟩ := hrel
    by_cases hlt : k < m
    · obtain ⟨t, b, o, q, d, ht, rfl, hb, c1, c2, hs, hts⟩ := (HR.out.gr hg.out HB.out) k (by rw [HM.out]; exact hlt)
      have HS := Lib.hid hs
      have HTS := Lib.hid hts
      have HT := Lib.hid ht
      clear hs hts ht
      by_cases hlt' : k < m'
      · obtain ⟨t', b', o', q', d', ht', rfl, hb', c1', c2', hs', hts'⟩ := (HR'.out.gr hg.out HB.out) k (by rw [HM'.out]; exact hlt')
        have HS' := Lib.hid hs'
        have HTS' := Lib.hid hts'
        have N1 := Lib.hid (L1.out k t t' HT.out ht')
        have hbl' : b' < wr.heap.size := Nat.lt_of_lt_of_le hb' (Nat.le_trans HB.out hg.out.size)
        clear hs' hts' ht'
        go_wp2_with fail
        refine (HC.out t (List.mem_of_getElem? HT.out) B _ _ t' _ (Nat.le_trans HB.out (((hg.out.more _).more _)).size) HTS.out HTS'.out (HS.out.gr ((Gr.alloc _ _).more _) (Nat.le_trans HB.out hg.out.size)) (HS'.out.gr ((Gr.alloc _ _).more _) (Nat.le_trans HB.out hg.out.size))).mono ?_
        rintro e w' ⟨rfl, g2⟩
        have hg2 := Lib.hid (((hg.out.more _).more _).trans g2)
        clear g2
        generalize cmpT t t' = z at *
        by_cases hz : z = 0
        · subst hz
          have HA2 : Hid (R = cmpL (l.drop (k + 1)) (r.drop (k + 1))) := Lib.hid (by rw [hA.out, N1.out]; simp [thn])
          go_wp2_with fail
          go_roundw
          case rel => exact ⟨k + 1, by omega, by omega, by go_num, HA2, hg2⟩
          case measure => simp [intOf]; omega
        · have hz1 : (z != 0) = true := by simpa using hz
          have HA2 : Hid (R = z) := Lib.hid (by rw [hA.out, N1.out]; simp [thn, hz])
          clear hz
          go_wp2_with fail
          go_ret
          exact ⟨ret_int HA2.out.symm, hg2.out⟩
      · obtain rfl : k = m' := by omega
        have HA2 : Hid (R = 1) := Lib.hid (by rw [hA.out]; exact L2.out k hlt (Nat.le_refl _))
        go_wp2_with fail
        go_ret
        exact ⟨ret_int HA2.out.symm, hg.out.more _⟩
    · obtain rfl : k = m := by omega
      have HA2 := hA.out.trans (L3.out k (Nat.le_refl _) hk')
      by_cases h2 : k < m'
      · rw [if_pos h2] at HA2
        have HA3 := Lib.hid HA2
        clear HA2
        go_wp2_with fail
        go_ret
        exact ⟨ret_int HA3.out.symm, hg.out⟩
      · rw [if_neg h2] at HA2
        have HA3 := Lib.hid HA2
        clear HA2
        go_wp2_with fail
        go_ret
        exact ⟨ret_int HA3.out.symm, hg.out⟩
theorem list_of (l r : List Tm) (hC : ∀ x ∈ l, CmpT 59 x) (B : Nat) (w : World) (v v' : Value) (hB : B ≤ w.heap.size) (h : SlIn (· < B) w l v) (h' : SlIn (· < B) w r v') :
    Calls Tryz.prog 79 #[v, v'] w fun e w' => e = .returned (.int .i64 (cmpL l r)) ∧ Gr w w' := by
  have K := Lib.hid (func_any l r hC B w v v' hB h h')
  generalize cmpL l r = R at *
  clear hC h h'
  go_enter Tryz.func79, Tryz.ntmps79
  go_wp2_with fail
  refine K.out.mono ?_
  rintro e w' ⟨rfl, g⟩
  have hg := Lib.hid g
  clear g
  go_wp2_with fail
  go_ret
  exact ⟨rfl, hg.out⟩
end TermQ
end Go.Proofs.YtgbbpliihglijaaGreat
/- The code's Compare answers by the order of terms. -/
namespace Go.Proofs.YtgbbpliihglijaaGreat
open Go Go.RowKit
namespace TermR
open LexM TermM TermI Kit TermN TermA TermB TermC TermD TermV TermO TermP TermQ
theorem cls_num {n : ByteArray} {e : Bool} (h : cls n e = 0) : numV n.data.toList = valL n.data.toList := by
  unfold numV
  rw [if_pos (show isNum n.data.toList = true from (cls_emp n e h).2)]
theorem emp_len (l : List Tm) : l.isEmpty = decide (l.length = 0) := by cases l <;> simp
theorem cmp_def (n m : ByteArray) (l r : List Tm) : cmpT (.mk n l) (.mk m r) = thn (sg (cls n (decide (l.length = 0))) (cls m (decide (r.length = 0)))) (thn (if cls n (decide (l.length = 0)) = 0 then sg (valL n.data.toList) (valL m.data.toList) else thn (sg l.length r.length) (lexB n.data.toList m.data.toList)) (cmpL l r)) := by
  simp only [cmpT]
  rw [emp_len, emp_len]
  rfl
theorem thn0 (z : Int) : thn 0 z = z := by simp [thn]
theorem thn1 {y : Int} (h : y ≠ 0) (z : Int) : thn y z = y := by simp [thn, h]
theorem sg0 (z : Int) : sg z z = 0 := by rw [sg_zero]
theorem cmp_len {n m : ByteArray} {l r : List Tm} (hc : cls n (decide (l.length = 0)) = cls m (decide (r.length = 0))) (hl : l.length ≠ r.length) : cmpT (.mk n l) (.mk m r) = sg l.length r.length := by
  rw [cmp_def]
  have h0 : cls n (decide (l.length = 0)) ≠ 0 := by
    intro h
    have h1 := of_decide_eq_true (cls_emp _ _ h).1
    have h2 := of_decide_eq_true (cls_emp _ _ (hc.symm.trans h)).1
    omega
  have hz : sg (l.length : Int) r.length ≠ 0 := by rw [Ne, sg_zero]; omega
  rw [if_neg h0, ← hc, sg0, thn0, thn1 hz, thn1 hz]
theorem cmp_cls {n m : ByteArray} {l r : List Tm} (hc : cls n (decide (l.length = 0)) ≠ cls m (decide (r.length = 0))) : cmpT (.mk n l) (.mk m r) = headF (cls n (decide (l.length = 0))) n (cls m (decide (r.length = 0))) m := by
  rw [cmp_def, thn1 (by rw [Ne, sg_zero]; exact hc)]
  unfold headF
  rw [if_pos hc]
theorem cmp_nm {n m : ByteArray} {l r : List Tm} (hc : cls n (decide (l.length = 0)) = cls m (decide (r.length = 0))) (hl : l.length = r.length) (hn : n ≠ m) : cmpT (.mk n l) (.mk m r) = headF (cls n (decide (l.length = 0))) n (cls m (decide (r.length = 0))) m := by
  rw [cmp_def]
  unfold headF
  rw [if_neg (not_not_intro hc), ← hc, sg0, thn0, hl, sg0, thn0]
  rw [hl] at hc
  by_cases h0 : cls n (decide (r.length = 0)) = 0
  · have h1 := of_decide_eq_true (cls_emp _ _ h0).1
    have h2 : r = [] := List.length_eq_zero_iff.1 h1
    have h3 : l = [] := List.length_eq_zero_iff.1 (hl.trans h1)
    rw [if_pos h0, if_pos h0, cls_num h0, cls_num (hc.symm.trans h0)]
    subst h2 h3
    simp only [cmpL]
    unfold thn
    split <;> simp_all
  · rw [if_neg h0, if_neg h0]
    have hz : lexB n.data.toList m.data.toList ≠ 0 := by rw [Ne, lex_zero]; intro h; exact hn (bytes_inj h)
    rw [thn1 hz]
theorem cmp_args {n : ByteArray} {l r : List Tm} (hl : l.length = r.length) : cmpT (.mk n l) (.mk n r) = cmpL l r := by
  have l0 : ∀ z, lexB z z = 0 := fun z => by rw [lex_zero]
  rw [cmp_def, hl, sg0, sg0, sg0, l0, thn0, thn0]
  split <;> rw [thn0]
theorem Gr.dr {a b : World} (h : Gr a b) : Gr a b.drew := h.trans (Gr.drew b)
theorem has_puts {X : World} {g h : Nat} {a b a' b' : Value} (h5 : Has X g #[a, b]) (h6 : Has X h #[a', b']) (hne : g ≠ h) (u v u' v' : Value) :
    Has ((((X.setCell ⟨g, 0, none⟩ u).setCell ⟨g, 1, none⟩ v).setCell ⟨h, 0, none⟩ u').setCell ⟨h, 1, none⟩ v') g #[u, v] ∧
    Has ((((X.setCell ⟨g, 0, none⟩ u).setCell ⟨g, 1, none⟩ v).setCell ⟨h, 0, none⟩ u').setCell ⟨h, 1, none⟩ v') h #[u', v'] := by
  constructor
  · exact ((((h5.set 0 u).set 1 v).far (p := ⟨h, 0, none⟩) hne u').far (p := ⟨h, 1, none⟩) hne v')
  · exact ((((h6.far (p := ⟨g, 0, none⟩) hne.symm u).far (p := ⟨g, 1, none⟩) hne.symm v).set 0 u').set 1 v')
theorem put2 {X : World} {g : Nat} (h : Has X g #[.int .i64 0, .string ⟨#[]⟩]) (u v : Value) : Has ((X.setCell ⟨g, 0, none⟩ u).setCell ⟨g, 1, none⟩ v) g #[u, v] := (h.set 0 u).set 1 v
theorem far2 {X : World} {g k : Nat} {cs : Array Value} (hne : g ≠ k) (h : Has X g cs) (u v : Value) : Has ((X.setCell ⟨k, 0, none⟩ u).setCell ⟨k, 1, none⟩ v) g cs := (h.far (p := ⟨k, 0, none⟩) hne u).far (p := ⟨k, 1, none⟩) hne v
theorem hasNew {w : World} {t : TypeId} {cs : Array Value} {g : Nat} (h : g = w.heap.size) : Has (w.alloc (.cells cs t)) g cs := by subst h; exact Has.new w t cs
set_option maxRecDepth 100000 in
set_option maxHeartbeats 6400000 in
theorem cmp_any (x : Tm) : CmpT 59 x := by
  induction x using Tm.ind with
  | h n l ih =>
    rintro B w sv ⟨m, r⟩ sv' hB hn hm h h'
    dsimp only [Tm.args, Tm.nm] at h h' hn hm ⊢
    have LS := Lib.hid (fun w hB h h' => list_of l r ih B w sv sv' hB h h')
    obtain ⟨p, c, rfl, _, hc, hcm, hR⟩ := h.row
    obtain ⟨p', c', rfl, _, hc', hcm', hR'⟩ := h'.row
    have hlf : l.length ≤ 9223372036854775807 := Nat.le_trans hc hcm
    have hlf' : r.length ≤ 9223372036854775807 := Nat.le_trans hc' hcm'
    have K1 := Lib.hid (fun w => head_any n p l.length c w hn)
    have K2 := Lib.hid (fun w => head_any m p' r.length c' w hm)
    have KH := Lib.hid (fun a b w => heads_any a b n m w hn hm)
    have KI := Lib.hid (fun a b w => cmpI_any a b w)
    have X1 := Lib.hid (fun h1 h2 => cmp_len (n := n) (m := m) (l := l) (r := r) h1 h2)
    have X2 := Lib.hid (fun h1 => cmp_cls (n := n) (m := m) (l := l) (r := r) h1)
    have X3 := Lib.hid (fun h1 h2 h3 => cmp_nm (n := n) (m := m) (l := l) (r := r) h1 h2 h3)
    have X4 : Hid (l.length = r.length → n = m → cmpT (.mk n l) (.mk m r) = cmpL l r) := Lib.hid (fun h1 h2 => by subst h2; exact cmp_args h1)
    generalize cls n (decide (l.length = 0)) = cx at *
    generalize cls m (decide (r.length = 0)) = cy at *
    generalize cmpT (.mk n l) (.mk m r) = R at *
    have HS := Lib.hid h
    have HS' := Lib.hid h'
    have HB := Lib.hid hB
    generalize l.length = a at *
    generalize r.length = b at *
    clear hR hR' h h' ih hc hc' hcm hcm' hn hm
    go_enter Tryz.func59, Tryz.ntmps59
    go_upto_region 1 with fail
    obtain ⟨W0, hW0⟩ : ∃ W0, W0 = (w.alloc (.cells #[.string n, .slice p a c] 58)).alloc (.cells #[.string m, .slice p' b c'] 58) := ⟨_, rfl⟩
    rw [← hW0]
    have G0 : Hid (Gr w W0) := Lib.hid (by rw [hW0]; exact (Gr.alloc _ _).more _)
    have HA : Hid (Has W0 w.heap.size #[.string n, .slice p a c] ∧ Has W0 (w.heap.size + 1) #[.string m, .slice p' b c']) := Lib.hid (by rw [hW0]; exact ⟨(Has.new _ _ _).alloc _, Has.new1 _ _ _ _⟩)
    clear hW0
    have Hb : Hid (∀ w', Gr W0 w' → w'.cell? ⟨w.heap.size, 0, none⟩ = some (.string n) ∧ w'.cell? ⟨w.heap.size, 1, none⟩ = some (.slice p a c) ∧ w'.cell? ⟨w.heap.size + 1, 0, none⟩ = some (.string m) ∧ w'.cell? ⟨w.heap.size + 1, 1, none⟩ = some (.slice p' b c') ∧ Hid (Gr W0 w') ∧ W0.heap.size ≤ w'.heap.size) := Lib.hid (fun w' hg => by
      obtain ⟨q1, q2, _⟩ := (hg.has HA.out.1).two
      obtain ⟨q3, q4, _⟩ := (hg.has HA.out.2).two
      exact ⟨q1, q2, q3, q4, Lib.hid hg, hg.size⟩)
    go_cut [5, 6] (fun s5 s6 wx => ∃ g h : Nat, s5 = .pointer (some ⟨g, 0, none⟩) ∧ s6 = .pointer (some ⟨h, 0, none⟩) ∧ Hid (Has wx g #[.int .i64 cx, .string n]) ∧ Hid (Has wx h #[.int .i64 cy, .string m]) ∧ Hid (Gr W0 wx))
    case first =>
      have hs0 := Hb.out _ (Gr.drew W0)
      clear LS KH KI X1 X2 X3 X4 HS HS' HB hB HA G0
      go_region_held3 (fun w' => w'.cell? ⟨w.heap.size, 0, none⟩ = some (.string n) ∧ w'.cell? ⟨w.heap.size, 1, none⟩ = some (.slice p a c) ∧ w'.cell? ⟨w.heap.size + 1, 0, none⟩ = some (.string m) ∧ w'.cell? ⟨w.heap.size + 1, 1, none⟩ = some (.slice p' b c') ∧ Hid (Gr W0 w') ∧ W0.heap.size ≤ w'.heap.size)
        (first | (with_reducible exact hs0) | (with_reducible assumption) | (with_reducible exact ⟨‹_›, ‹_›, ‹_›, ‹_›, ‹_›, ‹_›⟩) | (with_reducible refine Hb.out _ ?_; repeat (first | (with_reducible exact Gr.drew _) | (with_reducible exact Gr.refl _) | (with_reducible exact Hid.out (by assumption)) | (with_reducible refine Gr.dr ?_) | (with_reducible refine Gr.more ?_ _) | (refine Gr.put ?_ (by dsimp only; first | assumption | omega | (simp; try omega)) _))))
        (first
          | (go_at_call 76; go_split_ands; with_reducible refine (K1.out _).mono ?_; rintro e w' ⟨rfl, q0⟩; (try ((first | have y1a := q0.has (Has.new _ _ _) | have y1a := q0.has (Has.new _ _ _).drew); (try simp only [World.size_alloc] at y1a); have y1 := Lib.hid y1a; clear y1a)); (try ((first | have y2a := q0.has ((Has.new _ _ _).alloc _) | have y2a := q0.has ((Has.new _ _ _).alloc _).drew); (try simp only [World.size_alloc] at y2a); have y2 := Lib.hid y2a; clear y2a)); (try (have m1 := Nat.ne_of_lt y1.out.lt; have m2 := m1.symm)); (try (have m3 := Nat.ne_of_lt y2.out.lt; have m4 := m3.symm)); (have qg : Gr W0 w' := by (refine Gr.trans ?_ q0; repeat (with_reducible (first | exact Gr.drew _ | exact Gr.refl _ | exact Hid.out (by assumption) | refine Gr.dr ?_ | refine Gr.more ?_ _)))); clear q0; obtain ⟨z1, z2, z3, z4, z5, z6⟩ := Hb.out _ qg)
          | (go_at_call 76; go_split_ands; with_reducible refine (K2.out _).mono ?_; rintro e w' ⟨rfl, q0⟩; (try (have y3a := q0.has (Has.new _ _ _); (try simp only [World.size_alloc] at y3a); have y3 := Lib.hid y3a; clear y3a)); (try (have y4a := q0.has ((Has.new _ _ _).alloc _); (try simp only [World.size_alloc] at y4a); have y4 := Lib.hid y4a; clear y4a)); (try (have y5 := Lib.hid (q0.has y1.out))); (try (have y6 := Lib.hid (q0.has y2.out))); (try (have y7 := Lib.hid (q0.has (y1.out.alloc _)))); (have qg : Gr W0 w' := by (refine Gr.trans ?_ q0; repeat (with_reducible (first | exact Gr.drew _ | exact Gr.refl _ | exact Hid.out (by assumption) | refine Gr.dr ?_ | refine Gr.more ?_ _)))); clear q0; (try (have m5 := Nat.ne_of_lt y3.out.lt; have m6 := m5.symm)); (try (have m7 := Nat.ne_of_lt y4.out.lt; have m8 := m7.symm)); (try (have m9 := Nat.ne_of_lt y5.out.lt; have m10 := m9.symm)); (try (have m11 := Nat.ne_of_lt y6.out.lt; have m12 := m11.symm)); (try (have m13 := Nat.ne_of_lt y7.out.lt; have m14 := m13.symm)); (try (obtain ⟨_, _, _, _, _⟩ := y3.out.two)); (try (obtain ⟨_, _, _, _, _⟩ := y4.out.two)); (try (obtain ⟨_, _, _, _, _⟩ := y5.out.two)); (try (obtain ⟨_, _, _, _, _⟩ := y6.out.two)); (try (obtain ⟨_, _, _, _, _⟩ := y7.out.two)); obtain ⟨z1, z2, z3, z4, z5, z6⟩ := Hb.out _ qg))
      all_goals
        go_wp2_with fail
        go_meet
        refine ⟨_, _, rfl, rfl, ?_, ?_, ?_⟩
        · (refine Lib.hid ?_; repeat (first | (with_reducible exact y7.out) | (with_reducible exact y5.out) | (with_reducible exact y6.out) | (with_reducible exact y4.out) | (with_reducible exact y3.out) | ((with_reducible refine hasNew ?_); (first | rfl | (simp; done))) | (with_reducible refine put2 ?_ _ _) | ((with_reducible refine far2 ?_ ?_ _ _); (first | assumption | omega | (simp; done) | (simp; omega))) | (with_reducible refine Has.alloc ?_ _)))
        · (refine Lib.hid ?_; repeat (first | (with_reducible exact y7.out) | (with_reducible exact y5.out) | (with_reducible exact y6.out) | (with_reducible exact y4.out) | (with_reducible exact y3.out) | ((with_reducible refine hasNew ?_); (first | rfl | (simp; done))) | (with_reducible refine put2 ?_ _ _) | ((with_reducible refine far2 ?_ ?_ _ _); (first | assumption | omega | (simp; done) | (simp; omega))) | (with_reducible refine Has.alloc ?_ _)))
        · first | (with_reducible assumption) | (refine Lib.hid ?_; repeat (first | (with_reducible exact Gr.refl _) | (with_reducible exact Hid.out (by assumption)) | (with_reducible refine Gr.dr ?_) | (with_reducible refine Gr.more ?_ _) | (refine Gr.put ?_ (by dsimp only; first | assumption | omega | (simp; try omega)) _)))
    case rest =>
      obtain ⟨g, h, rfl, rfl, hx, hy, hg⟩ := hcut
      obtain ⟨z1, z2, z3, z4, z5, z6⟩ := Hb.out _ hg.out
      obtain ⟨x1, x2, _, _, x3⟩ := hx.out.two
      obtain ⟨y1, y2, _, _, y3⟩ := hy.out.two
      have GW := Lib.hid (G0.out.trans hg.out)
      clear K1 K2 Hb HA hx hy
      by_cases hc : cx = cy
      · by_cases hl : a = b
        · by_cases hnm : n = m
          · have HF := Lib.hid (X4.out hl hnm)
            subst hc hl hnm
            clear X1 X2 X3 X4 KH KI
            go_wp2_with fail
            refine (LS.out _ (Nat.le_trans HB.out GW.out.size) (HS.out.gr GW.out HB.out) (HS'.out.gr GW.out HB.out)).mono ?_
            rintro e w2 ⟨rfl, g2⟩
            have hg2 := Lib.hid (GW.out.trans g2)
            clear g2
            go_wp2_with fail
            go_ret
            exact ⟨ret_int HF.out.symm, hg2.out⟩
          · have HF := Lib.hid (X3.out hc hl hnm)
            have e1 : (n.toList == m.toList) = false := by
              rw [beq_eq_false_iff_ne]
              intro he
              rw [ByteArray.toList_eq, ByteArray.toList_eq] at he
              exact hnm (bytes_inj he)
            have e2 : (n.toList != m.toList) = true := by rw [bne, e1]; rfl
            clear hnm
            subst hc hl
            clear X1 X2 X3 X4 KI LS
            go_wp2_with fail
            refine (KH.out _ _ _).mono ?_
            rintro e w2 ⟨rfl, g2⟩
            have hg2 := Lib.hid (GW.out.trans g2)
            clear g2
            go_wp2_with fail
            go_ret
            exact ⟨ret_int HF.out.symm, hg2.out⟩
        · have HF := Lib.hid (X1.out hc hl)
          subst hc
          clear X1 X2 X3 X4 KH LS
          have hl1 : ((a : Int) != b) = true := bne_iff_ne.2 (by omega)
          go_wp2_with fail
          refine (KI.out _ _ _).mono ?_
          rintro e w2 ⟨rfl, rfl⟩
          go_wp2_with fail
          go_ret
          exact ⟨ret_int HF.out.symm, GW.out⟩
      · have HF := Lib.hid (X2.out hc)
        clear X1 X2 X3 X4 KI LS
        have hc1 : (cx == cy) = false := by simp only [beq_eq_false_iff_ne, ne_eq]; exact hc
        go_wp2_with fail
        refine (KH.out _ _ _).mono ?_
        rintro e w2 ⟨rfl, g2⟩
        have hg2 := Lib.hid (GW.out.trans g2)
        clear g2
        go_wp2_with fail
        go_ret
        exact ⟨ret_int HF.out.symm, hg2.out⟩
theorem cmplist_any (l r : List Tm) (B : Nat) (w : World) (v v' : Value) (hB : B ≤ w.heap.size) (h : SlIn (· < B) w l v) (h' : SlIn (· < B) w r v') :
    Calls Tryz.prog 79 #[v, v'] w fun e w' => e = .returned (.int .i64 (cmpL l r)) ∧ Gr w w' := list_of l r (fun x _ => cmp_any x) B w v v' hB h h'
end TermR
end Go.Proofs.YtgbbpliihglijaaGreat
