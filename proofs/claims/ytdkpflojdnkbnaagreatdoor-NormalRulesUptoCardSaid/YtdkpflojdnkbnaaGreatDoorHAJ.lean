/- Texts laid together: TermH; UniP; TermEq; UnpP; NorB. Their own heads stand before each. -/
import Derived.Test.YtdkpflojdnkbnaaGreatDoorHAI
import Derived.Test.YtdkpflojdnkbnaaGreatDoorHAG
import Derived.OwnWalk
import Derived.Laws.OwnMore
import Derived.Deep.DeepCutAuto
import Derived.Deep.RegionWith
import Derived.Test.YtdkpflojdnkbnaaGreatDoorHAD
import Derived.Test.YtdkpflojdnkbnaaGreatDoorHAE
import Derived.BigQuiet
import Derived.Deep.RegionHeld3
import Derived.Test.YtdkpflojdnkbnaaGreatDoorHAC
/- Ground of the code; lists of terms laid by the call; ascending lists with the same members are one. Condition: at most a million parts. -/
namespace Go.Proofs.YtdkpflojdnkbnaaGreatDoor
open Go Go.RowKit
namespace TermH
open LexM TermM TermI Kit TermN TermU TermL TermE TermF TermV TermT
theorem slin_of {B B' : Nat} {w : World} {g cap : Nat} {L : List (Tm × Value)} (hg : g < B') (hB : B ≤ B') (hc : L.length ≤ cap) (hm : cap ≤ maxLen) (hcell : Has w g (flatL L).toArray) (hall : ∀ x ∈ L, SlIn (· < B) w x.1.args x.2 ∧ x.1.nm.size ≤ maxLen) :
    SlIn (· < B') w (L.map (·.1)) (.slice (some ⟨g, 0, none⟩) L.length cap) := by
  have hl : (L.map (·.1)).length = L.length := by simp
  rw [← hl]
  have key : ∀ (i : Nat) (t : Tm), (L.map (·.1))[i]? = some t → ∃ x : Tm × Value, L[i]? = some x ∧ x.1 = t := by
    intro i t ht
    rw [List.getElem?_map] at ht
    obtain ⟨x, a, b⟩ := Option.map_eq_some_iff.1 ht
    exact ⟨x, a, b⟩
  refine .mk _ cap _ (fun i => (L.getD i (default, undef)).2) g 0 (fun _ => ⟨rfl, hg⟩) (fun h => by cases h) (by rw [hl]; exact hc) hm (fun i t ht => ?_) (fun i t ht => ?_)
  · obtain ⟨x, hx, rfl⟩ := key i t ht
    obtain ⟨f1, f2⟩ := flatL_get L i x hx
    rw [Nat.zero_add, hcell.cell, hcell.cell]
    refine ⟨by simpa using f1, ?_, (hall x (List.mem_of_getElem? hx)).2⟩
    simp only [List.getElem?_toArray]
    rw [f2]
    simp [List.getD, hx]
  · obtain ⟨x, hx, rfl⟩ := key i t ht
    have := (hall x (List.mem_of_getElem? hx)).1.weaken (ok' := (· < B')) (fun b hb => Nat.lt_of_lt_of_le hb hB)
    simpa [List.getD, hx] using this
theorem con_var {n : ByteArray} (h : conB n = true) : varB n = false := by
  unfold conB numB nameB at h
  unfold varB
  generalize n.data.toList = l at *
  cases hv : varL l with
  | false => rfl
  | true =>
    exfalso
    cases l with
    | nil => simp [varL, headB] at hv
    | cons b r =>
      simp only [varL, headB, upB, Bool.and_eq_true, decide_eq_true_eq] at hv
      simp only [nameL, isNum, headB, loB, allB, dgB, List.all_cons, Bool.or_eq_true, Bool.and_eq_true, decide_eq_true_eq] at h
      rcases h with h | h
      · omega
      · omega
end TermH
end Go.Proofs.YtdkpflojdnkbnaaGreatDoor
/- The code's Match. Conditions: the substitution's terms and the ground term have at most a million parts. -/
namespace Go.Proofs.YtdkpflojdnkbnaaGreatDoor
open Go Go.RowKit
namespace UniP
open LexM TermM TermI Kit TermN TermU UniK UniM UniA UniC UniD UniE UniG UniJ UniO UniL
end UniP
end Go.Proofs.YtdkpflojdnkbnaaGreatDoor
/- gameplayerplain.Term and Terms: equality of terms. -/
namespace Go.Proofs.YtdkpflojdnkbnaaGreatDoor
open Go Go.RowKit
namespace TermEq
open LexM TermM TermI Kit TermN TermP TermQ TermR
def EqT (x : Tm) : Prop := ∀ (R : Bool) (B : Nat) (w : World) (sv : Value) (y : Tm) (sv' : Value), (R = true ↔ x = y) → B ≤ w.heap.size → SlIn (· < B) w x.args sv → SlIn (· < B) w y.args sv' →
  Calls Tryz.prog 45 #[.agg #[.string x.nm, sv], .agg #[.string y.nm, sv']] w fun e w' => e = .returned (.bool R) ∧ Gr w w'
theorem eq_at {l r : List Tm} {k : Nat} {x y : Tm} (h : l[k]? = some x) (h' : r[k]? = some y) : l.drop k = r.drop k ↔ x = y ∧ l.drop (k + 1) = r.drop (k + 1) := by
  rw [drop_get h, drop_get h']; simp
theorem eq_end {l r : List Tm} {k : Nat} (h : l.length ≤ k) (h' : r.length ≤ k) : l.drop k = r.drop k := by
  rw [List.drop_eq_nil_of_le h, List.drop_eq_nil_of_le h']
theorem b_iff_false {R : Bool} {p : Prop} (h : R = true ↔ p) (hp : ¬p) : R = false := by cases R <;> simp_all
theorem ret_bool {a b : Bool} (h : a = b) : Ending.returned (Value.bool a) = Ending.returned (Value.bool b) := by rw [h]
set_option maxRecDepth 100000 in
set_option maxHeartbeats 3200000 in
theorem terms_of (l r : List Tm) (hC : ∀ x ∈ l, EqT x) (R : Bool) (hRR : R = true ↔ l = r) (B : Nat) (w : World) (v v' : Value) (hB : B ≤ w.heap.size) (h : SlIn (· < B) w l v) (h' : SlIn (· < B) w r v') :
    Calls Tryz.prog 80 #[v, v'] w fun e w' => e = .returned (.bool R) ∧ Gr w w' := by
  obtain ⟨p, c, rfl, _, hc, hm, hR⟩ := h.row
  obtain ⟨p', c', rfl, _, hc', hm', hR'⟩ := h'.row
  have hlf : l.length ≤ 9223372036854775807 := Nat.le_trans hc hm
  have hlf' : r.length ≤ 9223372036854775807 := Nat.le_trans hc' hm'
  have HC := Lib.hid hC
  have HR := Lib.hid hR
  have HR' := Lib.hid hR'
  have HB := Lib.hid hB
  have HQ := Lib.hid hRR
  have L1 := Lib.hid (fun k x y h h' => eq_at (l := l) (r := r) (k := k) (x := x) (y := y) h h')
  have L3 := Lib.hid (fun k h h' => eq_end (l := l) (r := r) (k := k) h h')
  have L0 : Hid (R = true ↔ l.drop 0 = r.drop 0) := Lib.hid (by simpa using hRR)
  generalize hlm : l.length = m at *
  generalize hrm : r.length = m' at *
  have HM := Lib.hid hlm
  have HM' := Lib.hid hrm
  clear hC hR hR' h h' hc hc' hm hm' hlm hrm hRR
  by_cases hmm : m = m'
  · subst hmm
    clear HQ
    go_enter Tryz.func80, Tryz.ntmps80
    go_wp2_with fail
    go_loopw [13] (fun i wr => ∃ k : Nat, k ≤ m ∧ i = .int .i64 k ∧ Hid (R = true ↔ l.drop k = r.drop k) ∧ Hid (Gr w wr)) (fun i _ => m - (intOf i).toNat)
    case atStart => exact ⟨0, Nat.zero_le _, rfl, L0, Lib.hid (Gr.refl _)⟩
    case round =>
      obtain ⟨k, hk, rfl, hA, hg⟩ := hrel
      by_cases hlt : k < m
      · obtain ⟨t, b, o, q, d, ht, rfl, hb, c1, c2, hs, hts⟩ := (HR.out.gr hg.out HB.out) k (by rw [HM.out]; exact hlt)
        obtain ⟨t', b', o', q', d', ht', rfl, hb', c1', c2', hs', hts'⟩ := (HR'.out.gr hg.out HB.out) k (by rw [HM'.out]; exact hlt)
        have N1 := Lib.hid (hA.out.trans (L1.out k t t' ht ht'))
        obtain ⟨z, hz⟩ : ∃ z : Bool, Hid (z = true ↔ t = t') := ⟨decide (cmpT t t' = 0), Lib.hid (by rw [decide_eq_true_iff]; exact cmp_zero t t')⟩
        have KK := Lib.hid (fun w2 (g : Gr wr w2) => HC.out t (List.mem_of_getElem? ht) z B w2 _ t' _ hz.out (Nat.le_trans HB.out (hg.out.trans g).size) (hs.gr g (Nat.le_trans HB.out hg.out.size)) (hs'.gr g (Nat.le_trans HB.out hg.out.size)))
        clear hs hs' hts hts' ht ht' hA
        generalize t.nm = tn at *
        generalize t'.nm = tn' at *
        generalize t.args.length = ta at *
        generalize t'.args.length = ta' at *
        cases z
        · have HF : Hid (R = false) := Lib.hid (b_iff_false N1.out (fun hh => by have := hz.out.2 hh.1; simp at this))
          clear N1 hz
          go_upto_region 6 with fail
          go_cut [25] (fun s25 wx => s25 = .bool true ∧ Hid (Gr wr wx))
          case first =>
            go_region_with (first | (go_at_call 45; (with_reducible refine (KK.out _ (by first | exact Gr.drew _ | exact Gr.refl _)).mono ?_); rintro e w3 ⟨rfl, g3⟩; have G3 := Lib.hid (Gr.trans (by first | exact Gr.drew _ | exact Gr.refl _) g3 : Gr wr w3); clear g3))
            all_goals
              go_wp2_with fail
              go_meet
              exact ⟨rfl, G3⟩
          case rest =>
            obtain ⟨rfl, G3⟩ := hcut
            go_wp2_with fail
            go_ret
            exact ⟨ret_bool HF.out.symm, hg.out.trans G3.out⟩
        · have HF : Hid (R = true ↔ l.drop (k + 1) = r.drop (k + 1)) := Lib.hid (N1.out.trans ⟨fun hh => hh.2, fun hh => ⟨hz.out.1 rfl, hh⟩⟩)
          clear N1 hz
          go_upto_region 6 with fail
          go_cut [25] (fun s25 wx => s25 = .bool false ∧ Hid (Gr wr wx))
          case first =>
            go_region_with (first | (go_at_call 45; (with_reducible refine (KK.out _ (by first | exact Gr.drew _ | exact Gr.refl _)).mono ?_); rintro e w3 ⟨rfl, g3⟩; have G3 := Lib.hid (Gr.trans (by first | exact Gr.drew _ | exact Gr.refl _) g3 : Gr wr w3); clear g3))
            all_goals
              go_wp2_with fail
              go_meet
              exact ⟨rfl, G3⟩
          case rest =>
            obtain ⟨rfl, G3⟩ := hcut
            go_wp2_with fail
            go_roundw
            case rel => exact ⟨k + 1, by omega, by go_num, HF, Lib.hid (hg.out.trans G3.out)⟩
            case measure => simp [intOf]; omega
      · obtain rfl : k = m := by omega
        have HA2 : Hid (R = true) := Lib.hid (hA.out.2 (L3.out k (Nat.le_refl _) (Nat.le_refl _)))
        go_wp2_with fail
        go_ret
        exact ⟨ret_bool HA2.out.symm, hg.out⟩
  · have HF : Hid (R = false) := Lib.hid (b_iff_false HQ.out (fun hh => hmm (by have h1 := HM.out; have h2 := HM'.out; rw [hh] at h1; omega)))
    clear L0 HQ
    go_enter Tryz.func80, Tryz.ntmps80
    go_wp2_with fail
    go_ret
    exact ⟨ret_bool HF.out.symm, Gr.refl _⟩
set_option maxRecDepth 100000 in
set_option maxHeartbeats 3200000 in
theorem term_any (x : Tm) : EqT x := by
  induction x using Tm.ind with
  | h n l ih =>
    rintro R B w sv ⟨m, r⟩ sv' hR hB h h'
    dsimp only [Tm.args, Tm.nm] at h h' ⊢
    obtain ⟨p, c, rfl⟩ := h.form
    obtain ⟨p', c', rfl⟩ := h'.form
    have KK := Lib.hid (fun (hnm : n = m) w2 (g : Gr w w2) => terms_of l r ih R (by rw [hR, hnm]; simp) B w2 _ _ (Nat.le_trans hB g.size) (h.gr g hB) (h'.gr g hB))
    have HR := Lib.hid hR
    generalize l.length = a at *
    generalize r.length = b at *
    clear h h' ih hR
    by_cases hnm : n = m
    · have K2 := Lib.hid (KK.out hnm)
      clear KK HR
      subst hnm
      go_enter Tryz.func45, Tryz.ntmps45
      go_wp2_with fail
      refine (K2.out _ (by first | exact (Gr.alloc _ _).more _ | exact ((Gr.alloc _ _).more _).trans (Gr.drew _))).mono ?_
      rintro e w' ⟨rfl, g⟩
      have hg := Lib.hid (((Gr.alloc _ _).more _).trans g)
      clear g
      go_wp2_with fail
      go_ret
      exact ⟨rfl, hg.out⟩
    · have hb : (n.toList == m.toList) = false := by rw [beq_eq_false_iff_ne, Ne, ByteArray.toList_eq, ByteArray.toList_eq]; exact fun hh => hnm (bytes_inj hh)
      have HF : Hid (R = false) := Lib.hid (b_iff_false HR.out (fun hh => hnm (by injection hh)))
      clear KK HR
      go_enter Tryz.func45, Tryz.ntmps45
      go_wp2_with fail
      go_ret
      exact ⟨ret_bool HF.out.symm, (Gr.alloc _ _).more _⟩
end TermEq
end Go.Proofs.YtdkpflojdnkbnaaGreatDoor
/- gameplayerplain.Rule: equality of rules. No conditions. -/
namespace Go.Proofs.YtdkpflojdnkbnaaGreatDoor
open Go Go.RowKit
namespace UnpP
open Kit LexM TermM TermI TermU UniK UniM TermEq
theorem has3 {w : World} {g : Nat} {a b c : Value} (h : Has w g #[a, b, c]) : w.cell? ⟨g, 0, none⟩ = some a ∧ w.cell? ⟨g, 1, none⟩ = some b ∧ w.cell? ⟨g, 2, none⟩ = some c ∧ w.frozen? ⟨g, 0, none⟩ = false ∧ w.frozen? ⟨g, 1, none⟩ = false ∧ w.frozen? ⟨g, 2, none⟩ = false ∧ g < w.heap.size :=
  ⟨h.cell 0, h.cell 1, h.cell 2, h.free 0, h.free 1, h.free 2, h.lt⟩
theorem drop_get {α : Type} {l : List α} {i : Nat} {x : α} (h : l[i]? = some x) : l.drop i = x :: l.drop (i + 1) := by
  obtain ⟨hi, rfl⟩ := List.getElem?_eq_some_iff.1 h
  exact List.drop_eq_getElem_cons hi
def EqT (x : Tm) : Prop := ∀ (R : Bool) (B : Nat) (w : World) (sv : Value) (y : Tm) (sv' : Value), (R = true ↔ x = y) → B ≤ w.heap.size → SlIn (· < B) w x.args sv → SlIn (· < B) w y.args sv' →
  Calls Tryz.prog 45 #[.agg #[.string x.nm, sv], .agg #[.string y.nm, sv']] w fun e w' => e = .returned (.bool R) ∧ Gr w w'
theorem gr_dr {a b : World} (h : Gr a b) : Gr a b.drew := h.trans (Gr.drew b)
/-- The literals of a list, three cells each. -/
def RowL (B : Nat) (w : World) (l : List Lt) (p : Option Addr) : Prop := ∀ k, k < l.length → ∃ t b o q d, l[k]? = some t ∧ p = some ⟨b, o, none⟩ ∧ b < B ∧ w.cell? ⟨b, o + k * 3, none⟩ = some (.bool t.1) ∧ w.cell? ⟨b, o + k * 3 + 1, none⟩ = some (.string t.2.nm) ∧
  w.cell? ⟨b, o + k * 3 + 1 + 1, none⟩ = some (.slice q t.2.args.length d) ∧ SlIn (· < B) w t.2.args (.slice q t.2.args.length d) ∧ t.2.nm.size ≤ maxLen
theorem LIn.row {B : Nat} {w : World} {l : List Lt} {v : Value} (h : LIn (· < B) w l v) : ∃ p c, v = .slice p l.length c ∧ l.length ≤ c ∧ c ≤ maxLen ∧ RowL B w l p := by
  obtain ⟨L, rfl, p, c, e, h1, h2, h3, h4⟩ := h
  refine ⟨p, c, by rw [e]; simp, by simpa using h1, h2, fun k hk => ?_⟩
  have hk' : k < L.length := by simpa using hk
  obtain ⟨g, o, e1, e2, e3⟩ := h4 (by omega)
  obtain ⟨x, hx⟩ : ∃ x, L[k]? = some x := ⟨L[k], by simp [hk']⟩
  obtain ⟨s1, s2⟩ := h3 x (List.mem_of_getElem? hx)
  obtain ⟨q, d, eq⟩ := s1.form
  refine ⟨x.1, g, o, q, d, by simp [hx], e1, e2, e3 k x hx 0 _ rfl, e3 k x hx 1 _ rfl, ?_, by rw [← eq]; exact s1, s2⟩
  rw [← eq]
  exact e3 k x hx 2 _ rfl
theorem RowL.gr {B : Nat} {w w' : World} {l : List Lt} {p : Option Addr} (h : RowL B w l p) (g : Gr w w') (hB : B ≤ w.heap.size) : RowL B w' l p := fun k hk => by
  obtain ⟨t, b, o, q, d, h1, h2, h3, h4, h5, h6, h7, h8⟩ := h k hk
  exact ⟨t, b, o, q, d, h1, h2, h3, (g.cell (Nat.lt_of_lt_of_le h3 hB)).trans h4, (g.cell (Nat.lt_of_lt_of_le h3 hB)).trans h5, (g.cell (Nat.lt_of_lt_of_le h3 hB)).trans h6, h7.gr g hB, h8⟩
theorem eq_atL {l r : List Lt} {k : Nat} {x y : Lt} (h : l[k]? = some x) (h' : r[k]? = some y) : l.drop k = r.drop k ↔ (x.1 = y.1 ∧ x.2 = y.2) ∧ l.drop (k + 1) = r.drop (k + 1) := by
  rw [drop_get h, drop_get h']; simp [Prod.ext_iff]
theorem eq_endL {l r : List Lt} {k : Nat} (h : l.length ≤ k) (h' : r.length ≤ k) : l.drop k = r.drop k := by
  rw [List.drop_eq_nil_of_le h, List.drop_eq_nil_of_le h']
set_option maxRecDepth 100000 in
set_option maxHeartbeats 6400000 in
theorem rule_eq (x y : Tm) (l r : List Lt) (R : Bool) (hRR : R = true ↔ x = y ∧ l = r) (B : Nat) (w : World) (sv sv' v v' : Value) (hB : B ≤ w.heap.size)
    (hx : SlIn (· < B) w x.args sv) (hy : SlIn (· < B) w y.args sv') (h : LIn (· < B) w l v) (h' : LIn (· < B) w r v') :
    Calls Tryz.prog 18 #[.agg #[.string x.nm, sv, v], .agg #[.string y.nm, sv', v']] w fun e w' => e = .returned (.bool R) ∧ Gr w w' := by
  obtain ⟨p, c, rfl, hc, hm, hR⟩ := LIn.row h
  obtain ⟨p', c', rfl, hc', hm', hR'⟩ := LIn.row h'
  obtain ⟨W2, hW2⟩ : ∃ W2, W2 = (w.alloc (.cells #[.string x.nm, sv, .slice p l.length c] 27)).alloc (.cells #[.string y.nm, sv', .slice p' r.length c'] 27) := ⟨_, rfl⟩
  have G2 : Gr w W2 := by rw [hW2]; exact (Gr.alloc _ _).more _
  have H2 : Hid (Has W2 w.heap.size #[.string x.nm, sv, .slice p l.length c]) := Lib.hid (by rw [hW2]; exact (Has.new w _ _).alloc _)
  have H2' : Hid (Has W2 (w.heap.size + 1) #[.string y.nm, sv', .slice p' r.length c']) := Lib.hid (by rw [hW2]; exact Has.new1 w _ _ _)
  have hB2 : B ≤ W2.heap.size := Nat.le_trans hB G2.size
  have hlf : l.length ≤ 9223372036854775807 := Nat.le_trans hc hm
  have hlf' : r.length ≤ 9223372036854775807 := Nat.le_trans hc' hm'
  obtain ⟨z, hz⟩ : ∃ z : Bool, Hid (z = true ↔ x = y) := ⟨decide (cmpT x y = 0), Lib.hid (by rw [decide_eq_true_iff]; exact cmp_zero x y)⟩
  have HT := Lib.hid (term_any x z B W2 sv y sv' hz.out hB2 (hx.gr G2 hB) (hy.gr G2 hB))
  have HG := Lib.hid G2
  have HR := Lib.hid (hR.gr G2 hB)
  have HR' := Lib.hid (hR'.gr G2 hB)
  have HB := Lib.hid hB2
  have HQ := Lib.hid hRR
  have L1 := Lib.hid (fun k x y h h' => eq_atL (l := l) (r := r) (k := k) (x := x) (y := y) h h')
  have L3 := Lib.hid (fun k h h' => eq_endL (l := l) (r := r) (k := k) h h')
  generalize hlm : l.length = m at *
  generalize hrm : r.length = m' at *
  have HM := Lib.hid hlm
  have HM' := Lib.hid hrm
  generalize x.nm = xn at *
  generalize y.nm = yn at *
  obtain ⟨a1, a2, a3, a4, a5, a6, a7⟩ := has3 H2.out
  obtain ⟨b1, b2, b3, b4, b5, b6, b7⟩ := has3 H2'.out
  clear hRR hx hy h h' hR hR' hc hc' hm hm' hlm hrm hB2 hB G2
  go_enter Tryz.func18, Tryz.ntmps18
  go_upto_region 1 with fail
  rw [← hW2]
  clear hW2
  cases z
  · have HF : Hid (R = false) := Lib.hid (b_iff_false HQ.out (fun hh => by have := hz.out.2 hh.1; simp at this))
    go_wp2_with fail
    refine HT.out.mono ?_
    rintro e w3 ⟨rfl, g3⟩
    have G3 := Lib.hid g3
    clear g3
    go_wp2_with fail
    go_ret
    exact ⟨TermEq.ret_bool HF.out.symm, HG.out.trans G3.out⟩
  · have HQ2 : Hid (R = true ↔ l = r) := Lib.hid (HQ.out.trans ⟨fun hh => hh.2, fun hh => ⟨hz.out.1 rfl, hh⟩⟩)
    clear HQ hz
    go_wp2_with fail
    refine HT.out.mono ?_
    rintro e w3 ⟨rfl, g3⟩
    have G3 := Lib.hid g3
    have HH := Lib.hid (H2.out.step0 g3.1)
    have HH' := Lib.hid (H2'.out.step0 g3.1)
    have KR3 := Lib.hid (HR.out.gr g3 HB.out)
    have KR3' := Lib.hid (HR'.out.gr g3 HB.out)
    have hB3 := Lib.hid (Nat.le_trans HB.out g3.size)
    clear g3 a1 a2 a3 a4 a5 a6 a7 b1 b2 b3 b4 b5 b6 b7 HT
    obtain ⟨a1, a2, a3, a4, a5, a6, a7⟩ := has3 HH.out
    obtain ⟨b1, b2, b3, b4, b5, b6, b7⟩ := has3 HH'.out
    by_cases hmm : m = m'
    · subst hmm
      have L0 : Hid (R = true ↔ l.drop 0 = r.drop 0) := Lib.hid (by simpa using HQ2.out)
      go_wp2_with fail
      go_loopw [24] (fun i wr => ∃ k : Nat, k ≤ m ∧ i = .int .i64 k ∧ Hid (R = true ↔ l.drop k = r.drop k) ∧ Hid (Gr w3 wr)) (fun i _ => m - (intOf i).toNat)
      case atStart => exact ⟨0, Nat.zero_le _, rfl, L0, Lib.hid (Gr.refl _)⟩
      case round =>
        obtain ⟨k, hk, rfl, hA, hg⟩ := hrel
        clear a1 a2 a3 a4 a5 a6 a7 b1 b2 b3 b4 b5 b6 b7
        obtain ⟨a1, a2, a3, a4, a5, a6, a7⟩ := has3 (HH.out.step0 hg.out.1)
        obtain ⟨b1, b2, b3, b4, b5, b6, b7⟩ := has3 (HH'.out.step0 hg.out.1)
        by_cases hlt : k < m
        · obtain ⟨t, b, o, q, d, ht, rfl, hb, c1, c2, c3, hs, hts⟩ := (KR3.out.gr hg.out hB3.out) k (by rw [HM.out]; exact hlt)
          obtain ⟨t', b', o', q', d', ht', rfl, hb', c1', c2', c3', hs', hts'⟩ := (KR3'.out.gr hg.out hB3.out) k (by rw [HM'.out]; exact hlt)
          have N1 := Lib.hid (hA.out.trans (L1.out k t t' ht ht'))
          have hgw : w.heap.size < wr.heap.size := a7
          have hgw' : w.heap.size + 1 < wr.heap.size := b7
          have hgb : b < wr.heap.size := Nat.lt_of_lt_of_le hb (Nat.le_trans hB3.out hg.out.size)
          have hgb' : b' < wr.heap.size := Nat.lt_of_lt_of_le hb' (Nat.le_trans hB3.out hg.out.size)
          obtain ⟨z, hz⟩ : ∃ z : Bool, Hid (z = true ↔ t.2 = t'.2) := ⟨decide (cmpT t.2 t'.2 = 0), Lib.hid (by rw [decide_eq_true_iff]; exact cmp_zero t.2 t'.2)⟩
          have KK := Lib.hid (fun w2 (g : Gr wr w2) => term_any t.2 z B w2 _ t'.2 _ hz.out (Nat.le_trans hB3.out (hg.out.trans g).size) (hs.gr g (Nat.le_trans hB3.out hg.out.size)) (hs'.gr g (Nat.le_trans hB3.out hg.out.size)))
          have TOT := Lib.hid ((HG.out.trans G3.out).trans hg.out)
          clear hs hs' hts hts' ht ht' hA HH HH' KR3 KR3' hB3 hb hb' L0 HR HR' HB H2 H2' L1
          generalize t.2.nm = tn at *
          generalize t'.2.nm = tn' at *
          generalize t.2.args.length = ta at *
          generalize t'.2.args.length = ta' at *
          generalize t.1 = tb at *
          generalize t'.1 = tb' at *
          have Hb : Hid (∀ w', Gr wr w' → w'.cell? ⟨w.heap.size, 2, none⟩ = some (.slice (some ⟨b, o, none⟩) m c) ∧ w'.cell? ⟨w.heap.size + 1, 2, none⟩ = some (.slice (some ⟨b', o', none⟩) m c') ∧ w'.cell? ⟨b, o + k * 3, none⟩ = some (.bool tb) ∧ w'.cell? ⟨b, o + k * 3 + 1, none⟩ = some (.string tn) ∧ w'.cell? ⟨b, o + k * 3 + 1 + 1, none⟩ = some (.slice q ta d) ∧ w'.cell? ⟨b', o' + k * 3, none⟩ = some (.bool tb') ∧ w'.cell? ⟨b', o' + k * 3 + 1, none⟩ = some (.string tn') ∧ w'.cell? ⟨b', o' + k * 3 + 1 + 1, none⟩ = some (.slice q' ta' d') ∧ Hid (Gr wr w')) := Lib.hid (fun w' g => ⟨(g.cell hgw).trans a3, (g.cell hgw').trans b3, (g.cell hgb).trans c1, (g.cell hgb).trans c2, (g.cell hgb).trans c3, (g.cell hgb').trans c1', (g.cell hgb').trans c2', (g.cell hgb').trans c3', Lib.hid g⟩)
          by_cases hbb : tb = tb'
          · subst hbb
            cases tb
            case false =>
              have hs0 := Hb.out _ (Gr.refl wr)
              have N2 : Hid (R = true ↔ z = true ∧ l.drop (k + 1) = r.drop (k + 1)) := Lib.hid (N1.out.trans ⟨fun hh => ⟨hz.out.2 hh.1.2, hh.2⟩, fun hh => ⟨⟨rfl, hz.out.1 hh.1⟩, hh.2⟩⟩)
              clear N1 hz
              go_upto_region 6 with fail
              go_cut [55] (fun s55 wx => s55 = .bool (!z) ∧ Hid (Gr wr wx))
              case first =>
                clear a1 a2 a3 a4 a5 a6 a7 b1 b2 b3 b4 b5 b6 b7 c1 c2 c3 c1' c2' c3' hs0 N2 HG G3 HQ2 TOT
                have hs0 := Hb.out _ (gr_dr (Gr.refl wr))
                go_region_held3 (fun w' => w'.cell? ⟨w.heap.size, 2, none⟩ = some (.slice (some ⟨b, o, none⟩) m c) ∧ w'.cell? ⟨w.heap.size + 1, 2, none⟩ = some (.slice (some ⟨b', o', none⟩) m c') ∧ w'.cell? ⟨b, o + k * 3, none⟩ = some (.bool false) ∧ w'.cell? ⟨b, o + k * 3 + 1, none⟩ = some (.string tn) ∧ w'.cell? ⟨b, o + k * 3 + 1 + 1, none⟩ = some (.slice q ta d) ∧ w'.cell? ⟨b', o' + k * 3, none⟩ = some (.bool false) ∧ w'.cell? ⟨b', o' + k * 3 + 1, none⟩ = some (.string tn') ∧ w'.cell? ⟨b', o' + k * 3 + 1 + 1, none⟩ = some (.slice q' ta' d') ∧ Hid (Gr wr w'))
                  (first | (with_reducible assumption) | (with_reducible exact ⟨‹_›, ‹_›, ‹_›, ‹_›, ‹_›, ‹_›, ‹_›, ‹_›, ‹_›⟩) | (with_reducible refine Hb.out _ ?_; repeat (first | (with_reducible exact Hid.out (by assumption)) | (with_reducible exact Gr.refl _) | (with_reducible refine gr_dr ?_) | (with_reducible refine Gr.more ?_ _))))
                  (first | (go_at_call 45; (try go_split_ands); (with_reducible refine (KK.out _ (by repeat (first | (with_reducible exact Hid.out (by assumption)) | (with_reducible exact Gr.refl _) | (with_reducible refine gr_dr ?_) | (with_reducible refine Gr.more ?_ _)))).mono ?_); rintro e w4 ⟨rfl, q0⟩; (have qg : Gr wr w4 := by (refine Gr.trans ?_ q0; repeat (first | (with_reducible exact Hid.out (by assumption)) | (with_reducible exact Gr.refl _) | (with_reducible refine gr_dr ?_) | (with_reducible refine Gr.more ?_ _)))); clear q0; obtain ⟨z1, z2, z3, z4, z5, z6, z7, z8, z9⟩ := Hb.out _ qg))
                all_goals
                  go_wp2_with fail
                  go_meet
                  exact ⟨rfl, Lib.hid qg⟩
              case rest =>
                obtain ⟨rfl, G5⟩ := hcut
                cases z
                · have HF : Hid (R = false) := Lib.hid (b_iff_false N2.out (fun hh => by have := hh.1; simp at this))
                  go_wp2_with fail
                  go_ret
                  exact ⟨TermEq.ret_bool HF.out.symm, TOT.out.trans G5.out⟩
                · have N3 : Hid (R = true ↔ l.drop (k + 1) = r.drop (k + 1)) := Lib.hid (N2.out.trans ⟨fun hh => hh.2, fun hh => ⟨rfl, hh⟩⟩)
                  go_wp2_with fail
                  go_roundw
                  case rel => exact ⟨k + 1, by omega, by go_num, N3, Lib.hid (hg.out.trans G5.out)⟩
                  case measure => simp [intOf]; omega
            case true =>
              have hs0 := Hb.out _ (Gr.refl wr)
              have N2 : Hid (R = true ↔ z = true ∧ l.drop (k + 1) = r.drop (k + 1)) := Lib.hid (N1.out.trans ⟨fun hh => ⟨hz.out.2 hh.1.2, hh.2⟩, fun hh => ⟨⟨rfl, hz.out.1 hh.1⟩, hh.2⟩⟩)
              clear N1 hz
              go_upto_region 6 with fail
              go_cut [55] (fun s55 wx => s55 = .bool (!z) ∧ Hid (Gr wr wx))
              case first =>
                clear a1 a2 a3 a4 a5 a6 a7 b1 b2 b3 b4 b5 b6 b7 c1 c2 c3 c1' c2' c3' hs0 N2 HG G3 HQ2 TOT
                have hs0 := Hb.out _ (gr_dr (Gr.refl wr))
                go_region_held3 (fun w' => w'.cell? ⟨w.heap.size, 2, none⟩ = some (.slice (some ⟨b, o, none⟩) m c) ∧ w'.cell? ⟨w.heap.size + 1, 2, none⟩ = some (.slice (some ⟨b', o', none⟩) m c') ∧ w'.cell? ⟨b, o + k * 3, none⟩ = some (.bool true) ∧ w'.cell? ⟨b, o + k * 3 + 1, none⟩ = some (.string tn) ∧ w'.cell? ⟨b, o + k * 3 + 1 + 1, none⟩ = some (.slice q ta d) ∧ w'.cell? ⟨b', o' + k * 3, none⟩ = some (.bool true) ∧ w'.cell? ⟨b', o' + k * 3 + 1, none⟩ = some (.string tn') ∧ w'.cell? ⟨b', o' + k * 3 + 1 + 1, none⟩ = some (.slice q' ta' d') ∧ Hid (Gr wr w'))
                  (first | (with_reducible assumption) | (with_reducible exact ⟨‹_›, ‹_›, ‹_›, ‹_›, ‹_›, ‹_›, ‹_›, ‹_›, ‹_›⟩) | (with_reducible refine Hb.out _ ?_; repeat (first | (with_reducible exact Hid.out (by assumption)) | (with_reducible exact Gr.refl _) | (with_reducible refine gr_dr ?_) | (with_reducible refine Gr.more ?_ _))))
                  (first | (go_at_call 45; (try go_split_ands); (with_reducible refine (KK.out _ (by repeat (first | (with_reducible exact Hid.out (by assumption)) | (with_reducible exact Gr.refl _) | (with_reducible refine gr_dr ?_) | (with_reducible refine Gr.more ?_ _)))).mono ?_); rintro e w4 ⟨rfl, q0⟩; (have qg : Gr wr w4 := by (refine Gr.trans ?_ q0; repeat (first | (with_reducible exact Hid.out (by assumption)) | (with_reducible exact Gr.refl _) | (with_reducible refine gr_dr ?_) | (with_reducible refine Gr.more ?_ _)))); clear q0; obtain ⟨z1, z2, z3, z4, z5, z6, z7, z8, z9⟩ := Hb.out _ qg))
                all_goals
                  go_wp2_with fail
                  go_meet
                  exact ⟨rfl, Lib.hid qg⟩
              case rest =>
                obtain ⟨rfl, G5⟩ := hcut
                cases z
                · have HF : Hid (R = false) := Lib.hid (b_iff_false N2.out (fun hh => by have := hh.1; simp at this))
                  go_wp2_with fail
                  go_ret
                  exact ⟨TermEq.ret_bool HF.out.symm, TOT.out.trans G5.out⟩
                · have N3 : Hid (R = true ↔ l.drop (k + 1) = r.drop (k + 1)) := Lib.hid (N2.out.trans ⟨fun hh => hh.2, fun hh => ⟨rfl, hh⟩⟩)
                  go_wp2_with fail
                  go_roundw
                  case rel => exact ⟨k + 1, by omega, by go_num, N3, Lib.hid (hg.out.trans G5.out)⟩
                  case measure => simp [intOf]; omega
          · have HF : Hid (R = false) := Lib.hid (b_iff_false N1.out (fun hh => hbb hh.1.1))
            have hs0 := Hb.out _ (Gr.refl wr)
            have hbx := Lib.hid hbb
            clear N1 hz hbb KK Hb hs0
            cases tb <;> cases tb' <;> first | exact absurd rfl hbx.out | skip
            all_goals
              clear hbx
              go_upto_region 6 with fail
              go_cut [55] (fun s55 wx => s55 = .bool true ∧ Hid (Gr wr wx))
              case first =>
                go_quiet (fail)
                all_goals
                  go_wp2_with fail
                  go_meet
                  exact ⟨rfl, Lib.hid (by first | exact Gr.drewN _ _ | exact Gr.drew _ | exact Gr.refl _)⟩
              case rest =>
                obtain ⟨rfl, G5⟩ := hcut
                go_wp2_with fail
                go_ret
                exact ⟨TermEq.ret_bool HF.out.symm, TOT.out.trans G5.out⟩
        · obtain rfl : k = m := by omega
          have HA2 : Hid (R = true) := Lib.hid (hA.out.2 (L3.out k (Nat.le_refl _) (Nat.le_refl _)))
          go_wp2_with fail
          go_ret
          exact ⟨TermEq.ret_bool HA2.out.symm, (HG.out.trans G3.out).trans hg.out⟩
    · have HF : Hid (R = false) := Lib.hid (b_iff_false HQ2.out (fun hh => hmm (by have h1 := HM.out; have h2 := HM'.out; rw [hh] at h1; omega)))
      go_wp2_with fail
      go_ret
      exact ⟨TermEq.ret_bool HF.out.symm, HG.out.trans G3.out⟩
end UnpP
end Go.Proofs.YtdkpflojdnkbnaaGreatDoor
/- Atoms: the code's atom and the reference's Atom; Valid of rules, of both. No conditions on sizes. -/
namespace Go.Proofs.YtdkpflojdnkbnaaGreatDoor
open Go Go.RowKit
namespace NorB
open LexM TermM TermI Kit TermN TermU UniK UniM UniA UnpP
def atB (t : Tm) : Bool := nameL t.nm.data.toList && validT false 4 t
set_option maxHeartbeats 1600000 in
theorem atom_any (t : Tm) (B : Nat) (w : World) (sv : Value) (hB : B ≤ w.heap.size) (hs : t.nm.size ≤ maxLen) (h : SlIn (· < B) w t.args sv) :
    Calls Tryz.prog 65 #[.agg #[.string t.nm, sv]] w fun e w' => e = .returned (.bool (atB t)) ∧ Gr w w' := by
  obtain ⟨p, c, rfl, hn, hc, hm, hR⟩ := h.row
  have HN := Lib.hid (TermB.name_any t.nm (w.alloc (.cells #[.string t.nm, .slice p t.args.length c] 24)) (by unfold maxLen at hs; omega))
  have HC := Lib.hid (TermV.valid_any t B (w.alloc (.cells #[.string t.nm, .slice p t.args.length c] 24)) _ (Nat.le_trans hB (Gr.alloc _ _).size) hs (h.gr (Gr.alloc _ _) hB))
  have E : atB t = (nameL t.nm.data.toList && validT false 4 t) := rfl
  clear hR h hn
  generalize validT false 4 t = R at *
  generalize atB t = A at *
  generalize nameL t.nm.data.toList = N at *
  cases N
  · simp only [Bool.false_and] at E
    subst E
    go_enter Tryz.func65, Tryz.ntmps65
    go_wp2_with fail
    refine HN.out.mono ?_
    rintro e w' ⟨rfl, rfl⟩
    go_wp2_with fail
    go_ret
    exact ⟨rfl, Gr.alloc _ _⟩
  · simp only [Bool.true_and] at E
    subst E
    go_enter Tryz.func65, Tryz.ntmps65
    go_wp2_with fail
    refine HN.out.mono ?_
    rintro e w' ⟨rfl, rfl⟩
    go_wp2_with fail
    refine HC.out.mono ?_
    rintro e w' ⟨rfl, g2⟩
    have hg2 := Lib.hid ((Gr.alloc _ _).trans g2)
    clear g2
    go_wp2_with fail
    go_ret
    exact ⟨rfl, hg2.out⟩
set_option maxHeartbeats 1600000 in
theorem ratom_any (t : Tm) (B : Nat) (w : World) (sv : Value) (hB : B ≤ w.heap.size) (hs : t.nm.size ≤ maxLen) (h : SlIn (· < B) w t.args sv) :
    Calls Tryz.prog 77 #[.agg #[.string t.nm, sv]] w fun e w' => e = .returned (.bool (atB t)) ∧ Gr w w' := by
  obtain ⟨p, c, rfl, hn, hc, hm, hR⟩ := h.row
  have HN := Lib.hid (fun w' => TermB.rname_any t.nm w' (by unfold maxLen at hs; omega))
  have HC := Lib.hid (TermV.rvalid_any t B (w.alloc (.cells #[.string t.nm, .slice p t.args.length c] 24)) _ (Nat.le_trans hB (Gr.alloc _ _).size) hs (h.gr (Gr.alloc _ _) hB))
  have E : atB t = (validT false 4 t && nameL t.nm.data.toList) := Bool.and_comm _ _
  have H0 := Lib.hid (Has.new w 24 #[.string t.nm, .slice p t.args.length c])
  clear hR h hn
  generalize validT false 4 t = R at *
  generalize atB t = A at *
  generalize nameL t.nm.data.toList = N at *
  cases R
  · simp only [Bool.false_and] at E
    subst E
    go_enter Tryz.func77, Tryz.ntmps77
    go_wp2_with fail
    refine HC.out.mono ?_
    rintro e w' ⟨rfl, g2⟩
    have hg2 := Lib.hid ((Gr.alloc _ _).trans g2)
    clear g2
    go_wp2_with fail
    go_ret
    exact ⟨rfl, hg2.out⟩
  · simp only [Bool.true_and] at E
    subst E
    go_enter Tryz.func77, Tryz.ntmps77
    go_wp2_with fail
    refine HC.out.mono ?_
    rintro e w' ⟨rfl, g2⟩
    obtain ⟨x1, x2, _, _, _⟩ := (H0.out.below g2.1 (by simp)).two
    have hg2 := Lib.hid ((Gr.alloc _ _).trans g2)
    clear g2
    go_wp2_with fail
    refine (HN.out _).mono ?_
    rintro e w' ⟨rfl, rfl⟩
    go_wp2_with fail
    go_ret
    exact ⟨rfl, hg2.out⟩
end NorB
end Go.Proofs.YtdkpflojdnkbnaaGreatDoor
