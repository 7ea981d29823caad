/- Texts laid together: UnpP; LigC; LigB; LigY; UnqA; LigZ; UnrE; Sm20; UniV; UnqG. Their own heads stand before each. -/
import Derived.Test.YtihbnonbhelbmaaGreatDoorUniP
import Derived.Test.YtihbnonbhelbmaaGreatDoorUniK
import Derived.Test.YtihbnonbhelbmaaGreatDoorTermEq
import Derived.Deep.RegionWith
import Derived.BigQuiet
import Derived.Deep.RegionHeld3
import Derived.Deep.DeepCutAuto
import Derived.Test.YtihbnonbhelbmaaGreatDoorLigM
import Derived.Test.YtihbnonbhelbmaaGreatDoorTermI
import Derived.Laws.Concat
import Derived.Test.YtihbnonbhelbmaaGreatDoorTermN
import Derived.Test.YtihbnonbhelbmaaGreatDoorLigE
import Derived.Test.YtihbnonbhelbmaaGreatDoorTermE
import Derived.Deep.RegionLaw
import Derived.WalkSpells
import Derived.Test.YtihbnonbhelbmaaGreatDoorLigX
import Derived.Test.YtihbnonbhelbmaaGreatDoorTermT
import Derived.Lib.ItoaNum
import Derived.Lib.ItoaLen
import Derived.Lib.ItoaMem
import Derived.Test.YtihbnonbhelbmaaGreatDoorTermS
import Derived.Test.YtihbnonbhelbmaaGreatDoorRows
/- gameplayerplain.Rule: equality of rules. No conditions. -/
namespace Go.Proofs.YtihbnonbhelbmaaGreatDoor
open Go Go.RowKit
namespace UnpP
open Kit LexM TermM TermI TermU UniK UniM TermEq
theorem has3 {w : World} {g : Nat} {a b c : Value} (h : Has w g #[a, b, c]) : w.cell? ⟨g, 0, none⟩ = some a ∧ w.cell? ⟨g, 1, none⟩ = some b ∧ w.cell? ⟨g, 2, none⟩ = some c ∧ w.frozen? ⟨g, 0, none⟩ = false ∧ w.frozen? ⟨g, 1, none⟩ = false ∧ w.frozen? ⟨g, 2, none⟩ = false ∧ g < w.heap.size :=
  ⟨h.cell 0, h.cell 1, h.cell 2, h.free 0, h.free 1, h.free 2, h.lt⟩
theorem drop_get {α : Type} {l : List α} {i : Nat} {x : α} (h : l[i]? = some x) : l.drop i = x :: l.drop (i + 1) := by
  obtain ⟨hi, rfl⟩ := List.getElem?_eq_some_iff.1 h
  exact List.drop_eq_getElem_cons hi
def EqT (x : Tm) : Prop := ∀ (R : Bool) (B : Nat) (w : World) (sv : Value) (y : Tm) (sv' : Value), (R = true ↔ x = y) → B ≤ w.heap.size → SlIn (· < B) w x.args sv → SlIn (· < B) w y.args sv' →
  Calls Tryz.prog 18 #[.agg #[.string x.nm, sv], .agg #[.string y.nm, sv']] w fun e w' => e = .returned (.bool R) ∧ Gr w w'
theorem gr_dr {a b : World} (h : Gr a b) : Gr a b.drew := h.trans (Gr.drew b)
/-- The literals of a list, three cells each. -/
def RowL (B : Nat) (w : World) (l : List Lt) (p : Option Addr) : Prop := ∀ k, k < l.length → ∃ t b o q d, l[k]? = some t ∧ p = some ⟨b, o, none⟩ ∧ b < B ∧ w.cell? ⟨b, o + k * 3, none⟩ = some (.bool t.1) ∧ w.cell? ⟨b, o + k * 3 + 1, none⟩ = some (.string t.2.nm) ∧
  w.cell? ⟨b, o + k * 3 + 1 + 1, none⟩ = some (.slice q t.2.args.length d) ∧ SlIn (· < B) w t.2.args (.slice q t.2.args.length d) ∧ t.2.nm.size ≤ maxLen
theorem LIn.row {B : Nat} {w : World} {l : List Lt} {v : Value} (h : LIn (· < B) w l v) : ∃ p c, v = .slice p l.length c ∧ l.length ≤ c ∧ c ≤ maxLen ∧ RowL B w l p := by
  obtain ⟨L, rfl, p, c, e, h1, h2, h3, h4⟩ := h
  refine ⟨p, c, by rw [e]; simp, by simpa using h1, h2, fun k hk => ?_⟩
  have hk' : k < L.length := by simpa using hk
  obtain ⟨g, o, e1, e2, e3⟩ := h4 (by omega)
  obtain ⟨x, hx⟩ : ∃ x, L[k]? = some x := ⟨L[k], by simp [hk']⟩
  obtain ⟨s1, s2⟩ := h3 x (List.mem_of_getElem? hx)
  obtain ⟨q, d, eq⟩ := s1.form
  refine ⟨x.1, g, o, q, d, by simp [hx], e1, e2, e3 k x hx 0 _ rfl, e3 k x hx 1 _ rfl, ?_, by rw [← eq]; exact s1, s2⟩
  rw [← eq]
  exact e3 k x hx 2 _ rfl
theorem RowL.gr {B : Nat} {w w' : World} {l : List Lt} {p : Option Addr} (h : RowL B w l p) (g : Gr w w') (hB : B ≤ w.heap.size) : RowL B w' l p := fun k hk => by
  obtain ⟨t, b, o, q, d, h1, h2, h3, h4, h5, h6, h7, h8⟩ := h k hk
  exact ⟨t, b, o, q, d, h1, h2, h3, (g.cell (Nat.lt_of_lt_of_le h3 hB)).trans h4, (g.cell (Nat.lt_of_lt_of_le h3 hB)).trans h5, (g.cell (Nat.lt_of_lt_of_le h3 hB)).trans h6, h7.gr g hB, h8⟩
theorem eq_atL {l r : List Lt} {k : Nat} {x y : Lt} (h : l[k]? = some x) (h' : r[k]? = some y) : l.drop k = r.drop k ↔ (x.1 = y.1 ∧ x.2 = y.2) ∧ l.drop (k + 1) = r.drop (k + 1) := by
  rw [drop_get h, drop_get h']; simp [Prod.ext_iff]
theorem eq_endL {l r : List Lt} {k : Nat} (h : l.length ≤ k) (h' : r.length ≤ k) : l.drop k = r.drop k := by
  rw [List.drop_eq_nil_of_le h, List.drop_eq_nil_of_le h']
set_option maxRecDepth 100000 in
set_option maxHeartbeats 6400000 in
theorem rule_eq (x y : Tm) (l r : List Lt) (R : Bool) (hRR : R = true ↔ x = y ∧ l = r) (B : Nat) (w : World) (sv sv' v v' : Value) (hB : B ≤ w.heap.size)
    (hx : SlIn (· < B) w x.args sv) (hy : SlIn (· < B) w y.args sv') (h : LIn (· < B) w l v) (h' : LIn (· < B) w r v') :
    Calls Tryz.prog 22 #[.agg #[.string x.nm, sv, v], .agg #[.string y.nm, sv', v']] w fun e w' => e = .returned (.bool R) ∧ Gr w w' := by
  obtain ⟨p, c, rfl, hc, hm, hR⟩ := LIn.row h
  obtain ⟨p', c', rfl, hc', hm', hR'⟩ := LIn.row h'
  obtain ⟨W2, hW2⟩ : ∃ W2, W2 = (w.alloc (.cells #[.string x.nm, sv, .slice p l.length c] 34)).alloc (.cells #[.string y.nm, sv', .slice p' r.length c'] 34) := ⟨_, rfl⟩
  have G2 : Gr w W2 := by rw [hW2]; exact (Gr.alloc _ _).more _
  have H2 : Hid (Has W2 w.heap.size #[.string x.nm, sv, .slice p l.length c]) := Lib.hid (by rw [hW2]; exact (Has.new w _ _).alloc _)
  have H2' : Hid (Has W2 (w.heap.size + 1) #[.string y.nm, sv', .slice p' r.length c']) := Lib.hid (by rw [hW2]; exact Has.new1 w _ _ _)
  have hB2 : B ≤ W2.heap.size := Nat.le_trans hB G2.size
  have hlf : l.length ≤ 9223372036854775807 := Nat.le_trans hc hm
  have hlf' : r.length ≤ 9223372036854775807 := Nat.le_trans hc' hm'
  obtain ⟨z, hz⟩ : ∃ z : Bool, Hid (z = true ↔ x = y) := ⟨decide (cmpT x y = 0), Lib.hid (by rw [decide_eq_true_iff]; exact cmp_zero x y)⟩
  have HT := Lib.hid (term_any x z B W2 sv y sv' hz.out hB2 (hx.gr G2 hB) (hy.gr G2 hB))
  have HG := Lib.hid G2
  have HR := Lib.hid (hR.gr G2 hB)
  have HR' := Lib.hid (hR'.gr G2 hB)
  have HB := Lib.hid hB2
  have HQ := Lib.hid hRR
  have L1 := Lib.hid (fun k x y h h' => eq_atL (l := l) (r := r) (k := k) (x := x) (y := y) h h')
  have L3 := Lib.hid (fun k h h' => eq_endL (l := l) (r := r) (k := k) h h')
  generalize hlm : l.length = m at *
  generalize hrm : r.length = m' at *
  have HM := Lib.hid hlm
  have HM' := Lib.hid hrm
  generalize x.nm = xn at *
  generalize y.nm = yn at *
  obtain ⟨a1, a2, a3, a4, a5, a6, a7⟩ := has3 H2.out
  obtain ⟨b1, b2, b3, b4, b5, b6, b7⟩ := has3 H2'.out
  clear hRR hx hy h h' hR hR' hc hc' hm hm' hlm hrm hB2 hB G2
  go_enter Tryz.func22, Tryz.ntmps22
  go_upto_region 1 with fail
  rw [← hW2]
  clear hW2
  cases z
  · have HF : Hid (R = false) := Lib.hid (b_iff_false HQ.out (fun hh => by have := hz.out.2 hh.1; simp at this))
    go_wp2_with fail
    refine HT.out.mono ?_
    rintro e w3 ⟨rfl, g3⟩
    have G3 := Lib.hid g3
    clear g3
    go_wp2_with fail
    go_ret
    exact ⟨TermEq.ret_bool HF.out.symm, HG.out.trans G3.out⟩
  · have HQ2 : Hid (R = true ↔ l = r) := Lib.hid (HQ.out.trans ⟨fun hh => hh.2, fun hh => ⟨hz.out.1 rfl, hh⟩⟩)
    clear HQ hz
    go_wp2_with fail
    refine HT.out.mono ?_
    rintro e w3 ⟨rfl, g3⟩
    have G3 := Lib.hid g3
    have HH := Lib.hid (H2.out.step0 g3.1)
    have HH' := Lib.hid (H2'.out.step0 g3.1)
    have KR3 := Lib.hid (HR.out.gr g3 HB.out)
    have KR3' := Lib.hid (HR'.out.gr g3 HB.out)
    have hB3 := Lib.hid (Nat.le_trans HB.out g3.size)
    clear g3 a1 a2 a3 a4 a5 a6 a7 b1 b2 b3 b4 b5 b6 b7 HT
    obtain ⟨a1, a2, a3, a4, a5, a6, a7⟩ := has3 HH.out
    obtain ⟨b1, b2, b3, b4, b5, b6, b7⟩ := has3 HH'.out
    by_cases hmm : m = m'
    · subst hmm
      have L0 : Hid (R = true ↔ l.drop 0 = r.drop 0) := Lib.hid (by simpa using HQ2.out)
      go_wp2_with fail
      go_loopw [24] (fun i wr => ∃ k : Nat, k ≤ m ∧ i = .int .i64 k ∧ Hid (R = true ↔ l.drop k = r.drop k) ∧ Hid (Gr w3 wr)) (fun i _ => m - (intOf i).toNat)
      case atStart => exact ⟨0, Nat.zero_le _, rfl, L0, Lib.hid (Gr.refl _)⟩
      case round =>
        obtain ⟨k, hk, rfl, hA, hg⟩ := hrel
        clear a1 a2 a3 a4 a5 a6 a7 b1 b2 b3 b4 b5 b6 b7
        obtain ⟨a1, a2, a3, a4, a5, a6, a7⟩ := has3 (HH.out.step0 hg.out.1)
        obtain ⟨b1, b2, b3, b4, b5, b6, b7⟩ := has3 (HH'.out.step0 hg.out.1)
        by_cases hlt : k < m
        · obtain ⟨t, b, o, q, d, ht, rfl, hb, c1, c2, c3, hs, hts⟩ := (KR3.out.gr hg.out hB3.out) k (by rw [HM.out]; exact hlt)
          obtain ⟨t', b', o', q', d', ht', rfl, hb', c1', c2', c3', hs', hts'⟩ := (KR3'.out.gr hg.out hB3.out) k (by rw [HM'.out]; exact hlt)
          have N1 := Lib.hid (hA.out.trans (L1.out k t t' ht ht'))
          have hgw : w.heap.size < wr.heap.size := a7
          have hgw' : w.heap.size + 1 < wr.heap.size := b7
          have hgb : b < wr.heap.size := Nat.lt_of_lt_of_le hb (Nat.le_trans hB3.out hg.out.size)
          have hgb' : b' < wr.heap.size := Nat.lt_of_lt_of_le hb' (Nat.le_trans hB3.out hg.out.size)
          obtain ⟨z, hz⟩ : ∃ z : Bool, Hid (z = true ↔ t.2 = t'.2) := ⟨decide (cmpT t.2 t'.2 = 0), Lib.hid (by rw [decide_eq_true_iff]; exact cmp_zero t.2 t'.2)⟩
          have KK := Lib.hid (fun w2 (g : Gr wr w2) => term_any t.2 z B w2 _ t'.2 _ hz.out (Nat.le_trans hB3.out (hg.out.trans g).size) (hs.gr g (Nat.le_trans hB3.out hg.out.size)) (hs'.gr g (Nat.le_trans hB3.out hg.out.size)))
          have TOT := Lib.hid ((HG.out.trans G3.out).trans hg.out)
          clear hs hs' hts hts' ht ht' hA HH HH' KR3 KR3' hB3 hb hb' L0 HR HR' HB H2 H2' L1
          generalize t.2.nm = tn at *
          generalize t'.2.nm = tn' at *
          generalize t.2.args.length = ta at *
          generalize t'.2.args.length = ta' at *
          generalize t.1 = tb at *
          generalize t'.1 = tb' at *
          have Hb : Hid (∀ w', Gr wr w' → w'.cell? ⟨w.heap.size, 2, none⟩ = some (.slice (some ⟨b, o, none⟩) m c) ∧ w'.cell? ⟨w.heap.size + 1, 2, none⟩ = some (.slice (some ⟨b', o', none⟩) m c') ∧ w'.cell? ⟨b, o + k * 3, none⟩ = some (.bool tb) ∧ w'.cell? ⟨b, o + k * 3 + 1, none⟩ = some (.string tn) ∧ w'.cell? ⟨b, o + k * 3 + 1 + 1, none⟩ = some (.slice q ta d) ∧ w'.cell? ⟨b', o' + k * 3, none⟩ = some (.bool tb') ∧ w'.cell? ⟨b', o' + k * 3 + 1, none⟩ = some (.string tn') ∧ w'.cell? ⟨b', o' + k * 3 + 1 + 1, none⟩ = some (.slice q' ta' d') ∧ Hid (Gr wr w')) := Lib.hid (fun w' g => ⟨(g.cell hgw).trans a3, (g.cell hgw').trans b3, (g.cell hgb).trans c1, (g.cell hgb).trans c2, (g.cell hgb).trans c3, (g.cell hgb').trans c1', (g.cell hgb').trans c2', (g.cell hgb').trans c3', Lib.hid g⟩)
          by_cases hbb : tb = tb'
          · subst hbb
            cases tb
            case false =>
              have hs0 := Hb.out _ (Gr.refl wr)
              have N2 : Hid (R = true ↔ z = true ∧ l.drop (k + 1) = r.drop (k + 1)) := Lib.hid (N1.out.trans ⟨fun hh => ⟨hz.out.2 hh.1.2, hh.2⟩, fun hh => ⟨⟨rfl, hz.out.1 hh.1⟩, hh.2⟩⟩)
              clear N1 hz
              go_upto_region 6 with fail
              go_cut [55] (fun s55 wx => s55 = .bool (!z) ∧ Hid (Gr wr wx))
              case first =>
                clear a1 a2 a3 a4 a5 a6 a7 b1 b2 b3 b4 b5 b6 b7 c1 c2 c3 c1' c2' c3' hs0 N2 HG G3 HQ2 TOT
                have hs0 := Hb.out _ (gr_dr (Gr.refl wr))
                go_region_held3 (fun w' => w'.cell? ⟨w.heap.size, 2, none⟩ = some (.slice (some ⟨b, o, none⟩) m c) ∧ w'.cell? ⟨w.heap.size + 1, 2, none⟩ = some (.slice (some ⟨b', o', none⟩) m c') ∧ w'.cell? ⟨b, o + k * 3, none⟩ = some (.bool false) ∧ w'.cell? ⟨b, o + k * 3 + 1, none⟩ = some (.string tn) ∧ w'.cell? ⟨b, o + k * 3 + 1 + 1, none⟩ = some (.slice q ta d) ∧ w'.cell? ⟨b', o' + k * 3, none⟩ = some (.bool false) ∧ w'.cell? ⟨b', o' + k * 3 + 1, none⟩ = some (.string tn') ∧ w'.cell? ⟨b', o' + k * 3 + 1 + 1, none⟩ = some (.slice q' ta' d') ∧ Hid (Gr wr w'))
                  (first | (with_reducible assumption) | (with_reducible exact ⟨‹_›, ‹_›, ‹_›, ‹_›, ‹_›, ‹_›, ‹_›, ‹_›, ‹_›⟩) | (with_reducible refine Hb.out _ ?_; repeat (first | (with_reducible exact Hid.out (by assumption)) | (with_reducible exact Gr.refl _) | (with_reducible refine gr_dr ?_) | (with_reducible refine Gr.more ?_ _))))
                  (first | (go_at_call 18; (try go_split_ands); (with_reducible refine (KK.out _ (by repeat (first | (with_reducible exact Hid.out (by assumption)) | (with_reducible exact Gr.refl _) | (with_reducible refine gr_dr ?_) | (with_reducible refine Gr.more ?_ _)))).mono ?_); rintro e w4 ⟨rfl, q0⟩; (have qg : Gr wr w4 := by (refine Gr.trans ?_ q0; repeat (first | (with_reducible exact Hid.out (by assumption)) | (with_reducible exact Gr.refl _) | (with_reducible refine gr_dr ?_) | (with_reducible refine Gr.more ?_ _)))); clear q0; obtain ⟨z1, z2, z3, z4, z5, z6, z7, z8, z9⟩ := Hb.out _ qg))
                all_goals
                  go_wp2_with fail
                  go_meet
                  exact ⟨rfl, Lib.hid qg⟩
              case rest =>
                obtain ⟨rfl, G5⟩ := hcut
                cases z
                · have HF : Hid (R = false) := Lib.hid (b_iff_false N2.out (fun hh => by have := hh.1; simp at this))
                  go_wp2_with fail
                  go_ret
                  exact ⟨TermEq.ret_bool HF.out.symm, TOT.out.trans G5.out⟩
                · have N3 : Hid (R = true ↔ l.drop (k + 1) = r.drop (k + 1)) := Lib.hid (N2.out.trans ⟨fun hh => hh.2, fun hh => ⟨rfl, hh⟩⟩)
                  go_wp2_with fail
                  go_roundw
                  case rel => exact ⟨k + 1, by omega, by go_num, N3, Lib.hid (hg.out.trans G5.out)⟩
                  case measure => simp [intOf]; omega
            case true =>
              have hs0 := Hb.out _ (Gr.refl wr)
              have N2 : Hid (R = true ↔ z = true ∧ l.drop (k + 1) = r.drop (k + 1)) := Lib.hid (N1.out.trans ⟨fun hh => ⟨hz.out.2 hh.1.2, hh.2⟩, fun hh => ⟨⟨rfl, hz.out.1 hh.1⟩, hh.2⟩⟩)
              clear N1 hz
              go_upto_region 6 with fail
              go_cut [55] (fun s55 wx => s55 = .bool (!z) ∧ Hid (Gr wr wx))
              case first =>
                clear a1 a2 a3 a4 a5 a6 a7 b1 b2 b3 b4 b5 b6 b7 c1 c2 c3 c1' c2' c3' hs0 N2 HG G3 HQ2 TOT
                have hs0 := Hb.out _ (gr_dr (Gr.refl wr))
                go_region_held3 (fun w' => w'.cell? ⟨w.heap.size, 2, none⟩ = some (.slice (some ⟨b, o, none⟩) m c) ∧ w'.cell? ⟨w.heap.size + 1, 2, none⟩ = some (.slice (some ⟨b', o', none⟩) m c') ∧ w'.cell? ⟨b, o + k * 3, none⟩ = some (.bool true) ∧ w'.cell? ⟨b, o + k * 3 + 1, none⟩ = some (.string tn) ∧ w'.cell? ⟨b, o + k * 3 + 1 + 1, none⟩ = some (.slice q ta d) ∧ w'.cell? ⟨b', o' + k * 3, none⟩ = some (.bool true) ∧ w'.cell? ⟨b', o' + k * 3 + 1, none⟩ = some (.string tn') ∧ w'.cell? ⟨b', o' + k * 3 + 1 + 1, none⟩ = some (.slice q' ta' d') ∧ Hid (Gr wr w'))
                  (first | (with_reducible assumption) | (with_reducible exact ⟨‹_›, ‹_›, ‹_›, ‹_›, ‹_›, ‹_›, ‹_›, ‹_›, ‹_›⟩) | (with_reducible refine Hb.out _ ?_; repeat (first | (with_reducible exact Hid.out (by assumption)) | (with_reducible exact Gr.refl _) | (with_reducible refine gr_dr ?_) | (with_reducible refine Gr.more ?_ _))))
                  (first | (go_at_call 18; (try go_split_ands); (with_reducible refine (KK.out _ (by repeat (first | (with_reducible exact Hid.out (by assumption)) | (with_reducible exact Gr.refl _) | (with_reducible refine gr_dr ?_) | (with_reducible refine Gr.more ?_ _)))).mono ?_); rintro e w4 ⟨rfl, q0⟩; (have qg : Gr wr w4 := by (refine Gr.trans ?_ q0; repeat (first | (with_reducible exact Hid.out (by assumption)) | (with_reducible exact Gr.refl _) | (with_reducible refine gr_dr ?_) | (with_reducible refine Gr.more ?_ _)))); clear q0; obtain ⟨z1, z2, z3, z4, z5, z6, z7, z8, z9⟩ := Hb.out _ qg))
                all_goals
                  go_wp2_with fail
                  go_meet
                  exact ⟨rfl, Lib.hid qg⟩
              case rest =>
                obtain ⟨rfl, G5⟩ := hcut
                cases z
                · have HF : Hid (R = false) := Lib.hid (b_iff_false N2.out (fun hh => by have := hh.1; simp at this))
                  go_wp2_with fail
                  go_ret
                  exact ⟨TermEq.ret_bool HF.out.symm, TOT.out.trans G5.out⟩
                · have N3 : Hid (R = true ↔ l.drop (k + 1) = r.drop (k + 1)) := Lib.hid (N2.out.trans ⟨fun hh => hh.2, fun hh => ⟨rfl, hh⟩⟩)
                  go_wp2_with fail
                  go_roundw
                  case rel => exact ⟨k + 1, by omega, by go_num, N3, Lib.hid (hg.out.trans G5.out)⟩
                  case measure => simp [intOf]; omega
          · have HF : Hid (R = false) := Lib.hid (b_iff_false N1.out (fun hh => hbb hh.1.1))
            have hs0 := Hb.out _ (Gr.refl wr)
            have hbx := Lib.hid hbb
            clear N1 hz hbb KK Hb hs0
            cases tb <;> cases tb' <;> first | exact absurd rfl hbx.out | skip
            all_goals
              clear hbx
              go_upto_region 6 with fail
              go_cut [55] (fun s55 wx => s55 = .bool true ∧ Hid (Gr wr wx))
              case first =>
                go_quiet (fail)
                all_goals
                  go_wp2_with fail
                  go_meet
                  exact ⟨rfl, Lib.hid (by first | exact Gr.drewN _ _ | exact Gr.drew _ | exact Gr.refl _)⟩
              case rest =>
                obtain ⟨rfl, G5⟩ := hcut
                go_wp2_with fail
                go_ret
                exact ⟨TermEq.ret_bool HF.out.symm, TOT.out.trans G5.out⟩
        · obtain rfl : k = m := by omega
          have HA2 : Hid (R = true) := Lib.hid (hA.out.2 (L3.out k (Nat.le_refl _) (Nat.le_refl _)))
          go_wp2_with fail
          go_ret
          exact ⟨TermEq.ret_bool HA2.out.symm, (HG.out.trans G3.out).trans hg.out⟩
    · have HF : Hid (R = false) := Lib.hid (b_iff_false HQ2.out (fun hh => hmm (by have h1 := HM.out; have h2 := HM'.out; rw [hh] at h1; omega)))
      go_wp2_with fail
      go_ret
      exact ⟨TermEq.ret_bool HF.out.symm, HG.out.trans G3.out⟩
end UnpP
end Go.Proofs.YtihbnonbhelbmaaGreatDoor
/- key of gameplayerplain: a string of the plain length. Condition: it is short enough. -/
namespace Go.Proofs.YtihbnonbhelbmaaGreatDoor
open Go Go.RowKit
namespace LigC
open LexM TermM TermI Kit LigM
set_option maxRecDepth 100000 in
set_option maxHeartbeats 1600000 in
theorem key_any (t : Tm) : ∀ (B : Nat) (w : World) (sv : Value), B ≤ w.heap.size → SlIn (· < B) w t.args sv → klen t ≤ 4611686018427387904 →
    Calls Tryz.prog 105 #[.agg #[.string t.nm, sv]] w fun e w' => ∃ S : ByteArray, e = .returned (.string S) ∧ S.size = klen t ∧ Gr w w' := by
  induction t using Tm.ind with
  | h n l ih =>
    intro B w sv hB h hz
    dsimp only [Tm.args, Tm.nm] at h ⊢
    obtain ⟨p, c, rfl, hn, hc, hm, hR⟩ := h.row
    simp only [klen] at hz
    have h63 : l.length ≤ 9223372036854775806 := by have := len_klen l; omega
    have IH : Hid (∀ t ∈ l, ∀ (w : World) (v : Value), B ≤ w.heap.size → SlIn (· < B) w t.args v → Calls Tryz.prog 105 #[.agg #[.string t.nm, v]] w fun e w' => ∃ S : ByteArray, e = .returned (.string S) ∧ S.size = klen t ∧ Gr w w') :=
      Lib.hid (fun t hk w v hB h => ih t hk B w v hB h (by have := klenL_mem hk; omega))
    have NX : Hid (∀ k t, l[k]? = some t → klenL (l.take (k + 1)) = klenL (l.take k) + (klen t + 1)) := Lib.hid (fun k t h => klen_next l k t h)
    have GT : Hid (∀ k, n.size + 2 + klenL (l.take k) ≤ 4611686018427387904) := Lib.hid (fun k => by have := klenL_take l k; omega)
    have FL : Hid (n.size + 2 + klenL (l.take l.length) = klen (.mk n l)) := Lib.hid (by rw [List.take_length, klen])
    have HB := Lib.hid hB
    have HR := Lib.hid hR
    have P0 := Lib.hid (fun w' => run_string_add_sum (P := Tryz.prog) w' n ⟨#[40]⟩ (by show _ + 1 ≤ _; omega))
    generalize hm' : l.length = m at *
    have HM := Lib.hid hm'
    clear ih hR h hm' hn
    have p0 := P0.out
    have hn40 : (n ++ ⟨#[40]⟩ : ByteArray).size = n.size + 1 := by rw [ByteArray.size_append]; rfl
    generalize hS0 : (n ++ ⟨#[40]⟩ : ByteArray) = S0 at *
    clear hS0
    have HS0 := Lib.hid hn40
    clear hn40
    go_enter Tryz.func105, Tryz.ntmps105
    go_wp2_with fail
    clear p0
    go_loopw [3, 11] (fun d i wr => ∃ (k : Nat) (S : ByteArray), k ≤ m ∧ i = .int .i64 k ∧ d = .string S ∧ Hid (S.size = n.size + 1 + klenL (l.take k)) ∧ Hid (Gr (w.alloc (.cells #[.string n, .slice p m c] 27)) wr)) (fun _ i _ => m - (intOf i).toNat)
    case atStart => exact ⟨0, S0, Nat.zero_le _, rfl, rfl, Lib.hid (by rw [HS0.out]; simp [klenL]), Lib.hid (Gr.refl _)⟩
    case round =>
      obtain ⟨k, S, hk, rfl, rfl, hSz, hg⟩ := hrel
      by_cases hlt : k < m
      · obtain ⟨t, b, o, q, d, ht, rfl, hb, c1, c2, hs, hts⟩ := (HR.out.gr ((Gr.alloc _ _).trans hg.out) HB.out) k (by rw [HM.out]; exact hlt)
        obtain ⟨b0, b1, _, _, hbl⟩ := (hg.out.has (Has.new w _ _)).two
        have HD := Lib.hid (NX.out k t ht)
        have GT1 := Lib.hid (GT.out (k + 1))
        have IT := Lib.hid (IH.out t (List.mem_of_getElem? ht) wr _ (Nat.le_trans HB.out ((Gr.alloc _ _).trans hg.out).size) hs)
        clear ht hs hts
        generalize klen t = kt at *
        go_wp2_with fail
        refine IT.out.mono ?_
        rintro e w' ⟨T, rfl, hT, g2⟩
        have hg2 := Lib.hid (hg.out.trans g2)
        have hsz := hSz.out
        have hd := HD.out
        have hgt := GT1.out
        have p1 := fun w' => run_string_add_sum (P := Tryz.prog) w' T ⟨#[44]⟩ (by show _ + 1 ≤ _; omega)
        have hT2 : (T ++ ⟨#[44]⟩ : ByteArray).size = kt + 1 := by rw [ByteArray.size_append, hT]; rfl
        generalize hT3 : (T ++ ⟨#[44]⟩ : ByteArray) = T2 at *
        clear hT3
        have p2 := fun w' => run_string_add_sum (P := Tryz.prog) w' S T2 (by omega)
        have hS2 : (S ++ T2).size = n.size + 1 + klenL (l.take (k + 1)) := by rw [ByteArray.size_append]; omega
        generalize hS3 : S ++ T2 = S2 at *
        have HS2 := Lib.hid hS2
        clear g2 hsz hd hgt hS3 hS2 hT2 hT IT HD GT1
        go_wp2_with fail
        go_roundw
        case rel => exact ⟨k + 1, S2, by omega, by go_num, rfl, HS2, hg2⟩
        case measure => simp [intOf]; omega
      · obtain rfl : k = m := by omega
        have hgt := GT.out k
        have hsz := hSz.out
        have p1 := fun w' => run_string_add_sum (P := Tryz.prog) w' S ⟨#[41]⟩ (by show _ + 1 ≤ _; omega)
        have hF : (S ++ ⟨#[41]⟩ : ByteArray).size = klen (.mk n l) := by rw [ByteArray.size_append, ← FL.out]; show _ + 1 = _; omega
        generalize (S ++ ⟨#[41]⟩ : ByteArray) = S2 at *
        have HF := Lib.hid hF
        clear hgt hsz hF
        go_wp2_with fail
        go_ret
        exact ⟨S2, rfl, HF.out, (Gr.alloc _ _).trans hg.out⟩
end LigC
end Go.Proofs.YtihbnonbhelbmaaGreatDoor
/- levels of gameplayerplain: the depth of a term. Condition: at most 10^12 parts. Made by genlig.py. -/
namespace Go.Proofs.YtihbnonbhelbmaaGreatDoor
open Go Go.RowKit
namespace LigB
open LexM TermM TermI Kit TermN
set_option maxRecDepth 100000 in
set_option maxHeartbeats 1600000 in
theorem levels_any (t : Tm) : ∀ (B : Nat) (w : World) (sv : Value), B ≤ w.heap.size → SlIn (· < B) w t.args sv → sizeT t ≤ 1000000000000 →
    Calls Tryz.prog 106 #[.agg #[.string t.nm, sv]] w fun e w' => e = .returned (.int .i64 (depthT t)) ∧ Gr w w' := by
  induction t using Tm.ind with
  | h n l ih =>
    intro B w sv hB h hz
    dsimp only [Tm.args, Tm.nm] at h ⊢
    obtain ⟨p, c, rfl, hn, hc, hm, hR⟩ := h.row
    have hls := len_size l
    have hdl := Nat.le_trans (depthT_le (.mk n l)) hz
    simp only [sizeT] at hz
    simp only [depthT] at hdl
    simp only [depthT]
    have IH : Hid (∀ t ∈ l, ∀ (w : World) (v : Value), B ≤ w.heap.size → SlIn (· < B) w t.args v → sizeT t ≤ 1000000000000 → Calls Tryz.prog 106 #[.agg #[.string t.nm, v]] w fun e w' => e = .returned (.int .i64 (depthT t)) ∧ Gr w w') :=
      Lib.hid (fun t hk w v hB h hz => ih t hk B w v hB h hz)
    have NX : Hid (∀ k t, l[k]? = some t → depthL (l.take (k + 1)) = max (depthL (l.take k)) (depthT t) ∧ sizeT t ≤ 1000000000000 ∧ depthT t ≤ 1000000000000) := Lib.hid (fun k t h => by
      have := size_get h
      have := depthT_le t
      exact ⟨by exact depth_next _ _ _ h, by omega, by omega⟩)
    have GT : Hid (∀ k, depthL (l.take k) ≤ 1000000000000) := Lib.hid (fun k => by have := depthL_take l k; omega)
    have FL : Hid (depthL (l.take l.length) = depthL l) := Lib.hid (by simp)
    have HB := Lib.hid hB
    have HR := Lib.hid hR
    generalize hm' : l.length = m at *
    have HM := Lib.hid hm'
    clear ih hR h hm' hn hdl
    go_enter Tryz.func106, Tryz.ntmps106
    go_wp2_with fail
    go_loopw [3, 8] (fun d i wr => ∃ k : Nat, k ≤ m ∧ i = .int .i64 k ∧ d = .int .i64 (depthL (l.take k)) ∧ Hid (Gr (w.alloc (.cells #[.string n, .slice p m c] 27)) wr)) (fun _ i _ => m - (intOf i).toNat)
    case atStart => exact ⟨0, Nat.zero_le _, rfl, rfl, Lib.hid (Gr.refl _)⟩
    case round =>
      obtain ⟨k, hk, rfl, rfl, hg⟩ := hrel
      have hd := GT.out k
      by_cases hlt : k < m
      · obtain ⟨t, b, o, q, d, ht, rfl, hb, c1, c2, hs, hts⟩ := (HR.out.gr ((Gr.alloc _ _).trans hg.out) HB.out) k (by rw [HM.out]; exact hlt)
        obtain ⟨b0, b1, _, _, hbl⟩ := (hg.out.has (Has.new w _ _)).two
        obtain ⟨n1, n2, n3⟩ := NX.out k t ht
        have HD := Lib.hid n1
        have HT := Lib.hid ht
        have HS := Lib.hid hs
        have IT := Lib.hid (IH.out t (List.mem_of_getElem? ht))
        clear n1 ht hs
        go_wp2_with fail
        refine (IT.out _ _ (Nat.le_trans HB.out ((Gr.alloc _ _).trans (hg.out.trans (Gr.refl _))).size) (HS.out.gr (Gr.refl _) (Nat.le_trans HB.out ((Gr.alloc _ _).trans hg.out).size)) (by omega)).mono ?_
        rintro e w' ⟨rfl, g2⟩
        have hg2 := Lib.hid ((hg.out.trans (Gr.refl _)).trans g2)
        clear g2
        go_wp2_with fail
        go_roundw
        case rel => exact ⟨k + 1, by omega, by go_num, by rw [HD.out]; first | rfl | (congr 1; omega), hg2⟩
        case measure => simp [intOf]; omega
      · obtain rfl : k = m := by omega
        have HF := Lib.hid FL.out
        go_wp2_with fail
        go_ret
        exact ⟨ret_int (by rw [HF.out]; omega), (Gr.alloc _ _).trans hg.out⟩
end LigB
end Go.Proofs.YtihbnonbhelbmaaGreatDoor
/- One call of the closure of gameplayerplain.Light: an atom is added to the known ones unless it is known or too deep. Conditions: a good term whose key is short; at most ten million atoms. -/
namespace Go.Proofs.YtihbnonbhelbmaaGreatDoor
open Go Go.RowKit Go.Maps Go.WideMaps
namespace LigY
open Kit LexM TermM TermI TermN TermU TermE UniM UniK UniA UniD UniE UniG UniR LigM LigP LigG LigD LigQ LigE
/-- What the closure sees: the map of keys and the atoms, in the blocks behind A. -/
structure St (N K Z A : Nat) (w : World) (L : List (Tm × Value)) (M : List ByteArray) (av : Value) : Prop where
  known : Has w (A + 2) #[.map (some (A + 1))]
  cell : Has w (A + 3) #[av]
  own : OwnA (· < A) (A + 4) w L av
  map : w.ownsMap Tryz.prog 9 (plainElem (H := Unit) Tryz.prog 4) (A + 1) L.length (Dof M)
  keys : ∀ x ∈ M, x.size ≤ maxLen
  good : ∀ x ∈ L, GT N K Z x.1
/-- What stays: all blocks but some, and what came before. -/
structure Lt (ex : Nat → Prop) (a b : World) : Prop where
  os : b.os = a.os
  tape : b.tape = a.tape
  output : b.output = a.output
  size : a.heap.size ≤ b.heap.size
  block : ∀ i, i < a.heap.size → ¬ ex i → b.heap[i]? = a.heap[i]?
section
variable {ex : Nat → Prop} {a b c : World}
theorem Lt.of (h : Below a.heap.size a b) : Lt ex a b := ⟨h.os, h.tape, h.output, h.size, fun i hi _ => h.block i hi⟩
theorem Lt.trans (h : Lt ex a b) (k : Lt ex b c) : Lt ex a c := ⟨k.os.trans h.os, k.tape.trans h.tape, k.output.trans h.output, Nat.le_trans h.size k.size, fun i hi hn => (k.block i (Nat.lt_of_lt_of_le hi h.size) hn).trans (h.block i hi hn)⟩
theorem Lt.below (h : Lt ex a b) (k : Below b.heap.size b c) : Lt ex a c := h.trans (Lt.of k)
theorem Lt.grown {row : Option Nat} (h : Lt ex a b) (hg : b.grownBy c row) (hr : ∀ k, row = some k → ex k ∨ a.heap.size ≤ k) : Lt ex a c :=
  ⟨hg.os.trans h.os, hg.tape.trans h.tape, hg.output.trans h.output, Nat.le_trans h.size hg.size, fun i hi hn => (hg.block i (Nat.lt_of_lt_of_le hi h.size) (fun e => by rcases hr i e.symm with h | h; exact hn h; omega)).trans (h.block i hi hn)⟩
theorem Lt.put (h : Lt ex a b) {p : Addr} (hp : ex p.block ∨ a.heap.size ≤ p.block) (u : Value) : Lt ex a (b.setCell p u) :=
  ⟨h.os, h.tape, h.output, Nat.le_trans h.size (by simp [World.setCell]), fun i hi hn => (Below.heap_setCell _ _ _ _ (fun e => by subst e; rcases hp with h | h; exact hn h; omega)).trans (h.block i hi hn)⟩
theorem Lt.cell (h : Lt ex a b) {g o : Nat} (hg : g < a.heap.size) (hn : ¬ ex g) : b.cell? ⟨g, o, none⟩ = a.cell? ⟨g, o, none⟩ := World.cell?_of_block (w := a) (a := ⟨g, o, none⟩) (h.block g hg hn)
theorem Lt.has {g : Nat} {cs : Array Value} (h : Lt ex a b) (k : Has a g cs) (hn : ¬ ex g) : Has b g cs := by
  have hl := k.lt
  obtain ⟨t, k⟩ := k
  exact ⟨t, (h.block g hl hn).trans k⟩
theorem Lt.map {P : Program} {k : TypeId} {R : Value → Option (DataW Unit × List MemPlace)} {g n : Nat} {D : DataW Unit} (h : Lt ex a b) (m : a.ownsMap P k R g n D) (hn : ¬ ex g) : b.ownsMap P k R g n D := by
  have hl := m.lt
  obtain ⟨es, clock, hb, F, hs, hD⟩ := m
  exact ⟨es, clock, (h.block g hl hn).trans hb, F, hs, hD⟩
theorem Lt.toBelow (h : Lt ex a b) {B : Nat} (hB : B ≤ a.heap.size) (hx : ∀ i, ex i → B ≤ i) : Below B a b := ⟨h.os, h.tape, h.output, h.size, fun i hi => h.block i (by omega) (fun e => by have := hx i e; omega)⟩
end
theorem Lt.mono {ex ex' : Nat → Prop} {a b : World} (h : Lt ex a b) (hx : ∀ i, ex i → ex' i) : Lt ex' a b := ⟨h.os, h.tape, h.output, h.size, fun i hi hn => h.block i hi fun e => hn (hx i e)⟩
/-- What a call of the closure may change behind the map. -/
def exB (A : Nat) (av : Value) (b : Nat) : Prop := b = A + 3 ∨ av.ownBlock = some b
/-- What a call of the closure may change. -/
def exA (A : Nat) (av : Value) (b : Nat) : Prop := b = A + 1 ∨ b = A + 3 ∨ av.ownBlock = some b
theorem St.gr {N K Z A : Nat} {w w' : World} {L : List (Tm × Value)} {M : List ByteArray} {av : Value} (h : St N K Z A w L M av) (g : Below w.heap.size w w') : St N K Z A w' L M av :=
  ⟨h.known.step0 g, h.cell.step0 g, h.own.below g, h.map.kept (row := none) ⟨g.os, g.tape, g.output, g.size, fun i hi _ => g.block i hi⟩ (by simp), h.keys, h.good⟩
theorem set2 (xs : List Value) (a b c d : Value) (n : Nat) (h : xs.length = n) : ((xs ++ [a, b]).set n c).set (n + 1) d = xs ++ [c, d] := by
  subst h
  rw [List.set_append_right _ _ (Nat.le_refl _), Nat.sub_self, List.set_append_right _ _ (Nat.le_succ _), Nat.succ_sub (Nat.le_refl _), Nat.sub_self]
  rfl
/-- The new element is stored, then the variable. -/
theorem fin1 {A g n cap : Nat} {w9 : World} {xs : List Value} {a b s v : Value} (h : w9.ownsRow (A + 4) 27 2 (.slice (some ⟨g, 0, none⟩) (n + 1) cap) (n + 1) (xs ++ [a, b])) (hl : xs.length = n * 2) :
    ((w9.setCell ⟨g, n * 2, none⟩ s).setCell ⟨g, n * 2 + 1, none⟩ v).ownsRow (A + 4) 27 2 (.slice (some ⟨g, 0, none⟩) (n + 1) cap) (n + 1) (xs ++ [s, v]) := by
  have h1 := (h.stored (n * 2) s).1
  have h2 := (h1.stored (n * 2 + 1) v).1
  rw [set2 xs a b s v (n * 2) hl] at h2
  exact h2
theorem own_fin {A g cap : Nat} {w4 wF : World} {L : List (Tm × Value)} {av : Value} {okt : Nat → Prop} {t : Tm} {tv : Value} (h : OwnA (· < A) (A + 4) w4 L av) (hok : ∀ b, okt b → (b < A ∨ A + 4 ≤ b) ∧ b < w4.heap.size ∧ av.ownBlock ≠ some b) (ht : SlIn okt w4 t.args tv) (hn : t.nm.size ≤ maxLen)
    (hrow : wF.ownsRow (A + 4) 27 2 (.slice (some ⟨g, 0, none⟩) (L.length + 1) cap) (L.length + 1) (flatL L ++ [.string t.nm, tv])) (hF : Lt (exA A av) w4 wF) (hat : av.ownBlock = some g ∨ w4.heap.size ≤ g) :
    OwnA (· < A) (A + 4) wF (L ++ [(t, tv)]) (.slice (some ⟨g, 0, none⟩) (L.length + 1) cap) := by
  obtain ⟨h1, ok, h2, h3⟩ := h
  have fr : ∀ b o, (b < A ∨ A + 4 ≤ b) ∧ b < w4.heap.size ∧ av.ownBlock ≠ some b → wF.cell? ⟨b, o, none⟩ = w4.cell? ⟨b, o, none⟩ := fun b o hb => hF.cell hb.2.1 (fun e => by
    rcases e with e | e | e
    · omega
    · omega
    · exact hb.2.2 e)
  refine ⟨by rw [List.length_append, flatL_snoc]; exact hrow, fun b => ok b ∨ okt b, fun b hk => ?_, fun x hx => ?_⟩
  · have hb2 : (b < A ∨ A + 4 ≤ b) ∧ b < w4.heap.size ∧ av.ownBlock ≠ some b := by
      rcases hk with hk | hk
      · exact h2 b hk
      · exact hok b hk
    refine ⟨hb2.1, Nat.lt_of_lt_of_le hb2.2.1 hF.size, fun e => ?_⟩
    have e' : g = b := by simpa [Value.ownBlock] using e
    rcases hat with h | h
    · exact hb2.2.2 (by rw [h, e'])
    · omega
  · rcases List.mem_append.1 hx with hx | hx
    · exact ⟨((h3 x hx).1.frame fun b o hk => fr b o (h2 b hk)).weaken fun b hk => Or.inl hk, (h3 x hx).2⟩
    · obtain rfl := List.mem_singleton.1 hx
      exact ⟨(ht.frame fun b o hk => fr b o (hok b hk)).weaken fun b hk => Or.inr hk, hn⟩
theorem own_lt {ok0 ex : Nat → Prop} {base : Nat} {a b : World} {L : List (Tm × Value)} {v : Value} (h : OwnA ok0 base a L v) (g : Lt ex a b) (hx : ∀ i, ex i → i < base ∧ ¬ ok0 i) : OwnA ok0 base b L v := by
  obtain ⟨h1, ok, h2, h3⟩ := h
  have hl := h1.lt
  have nx : ∀ i, ok i → ¬ ex i := fun i hi e => by
    rcases (h2 i hi).1 with h | h
    · exact (hx i e).2 h
    · have := (hx i e).1; omega
  refine ⟨⟨h1.1, ?_⟩, ok, fun b hk => ⟨(h2 b hk).1, Nat.lt_of_lt_of_le (h2 b hk).2.1 g.size, (h2 b hk).2.2⟩, fun x hx' => ⟨(h3 x hx').1.frame fun b o hk => g.cell (h2 b hk).2.1 (nx b hk), (h3 x hx').2⟩⟩
  rcases h1.2 with h | ⟨k, cap, cur, e1, e2, e3, e4⟩
  · exact Or.inl h
  · have hk := hl k (by rw [e1]; rfl)
    exact Or.inr ⟨k, cap, cur, e1, e2, (g.block k hk.2 (fun e => by have := (hx k e).1; omega)).trans e3, e4⟩
theorem gt_new {N : Nat} {t : Tm} (hg : GN N t) (hd : depthT t ≤ 4) : GT N ((N + 3) * 20 ^ 4) (20 ^ 4) t := ⟨hg, by have := klen_le 4 t hg hd; omega, size_le 4 t hg hd⟩
/-- What the append of an empty element leaves: the row, one element longer, in its old block or in a new one. -/
structure App (A n : Nat) (w4 w9 : World) (xs : List Value) (av : Value) (g c : Nat) : Prop where
  row : w9.ownsRow (A + 4) 27 2 (.slice (some ⟨g, 0, none⟩) (n + 1) c) (n + 1) (xs ++ [.string ⟨#[]⟩, .slice none 0 0])
  lt : Lt (exB A av) w4 w9
  at_ : av.ownBlock = some g ∨ g = w4.heap.size + 1
  ne : g ≠ A + 3
theorem App.c0 {A n : Nat} {w4 w9 : World} {xs : List Value} {av : Value} {g c : Nat} (h : App A n w4 w9 xs av g c) (hl : xs.length = n * 2) : w9.cell? ⟨g, n * 2, none⟩ = some (.string ⟨#[]⟩) := by
  rw [h.row.cellAt _ (by omega), List.getElem?_append_right (by omega), hl, Nat.sub_self]
  rfl
theorem App.c1 {A n : Nat} {w4 w9 : World} {xs : List Value} {av : Value} {g c : Nat} (h : App A n w4 w9 xs av g c) (hl : xs.length = n * 2) : w9.cell? ⟨g, n * 2 + 1, none⟩ = some (.slice none 0 0) := by
  rw [h.row.cellAt _ (by omega), List.getElem?_append_right (by omega), hl, show n * 2 + 1 - n * 2 = 1 by omega]
  rfl
theorem App.put {A n : Nat} {w4 w9 : World} {xs : List Value} {av : Value} {g c : Nat} (h : App A n w4 w9 xs av g c) (u : Value) : App A n w4 (w9.setCell ⟨A + 3, 0, none⟩ u) xs av g c :=
  ⟨ownsRow_setCell_below h.row (by show A + 3 < A + 4; omega) u, h.lt.put (Or.inl (Or.inl rfl)) u, h.at_, h.ne⟩
theorem App.far {A n : Nat} {w4 w9 : World} {xs : List Value} {av : Value} {g c : Nat} (h : App A n w4 w9 xs av g c) {cs : Array Value} (k : Has w9 (A + 3) cs) (a b : Value) : Has ((w9.setCell ⟨g, n * 2, none⟩ a).setCell ⟨g, n * 2 + 1, none⟩ b) (A + 3) cs :=
  (k.far (p := ⟨g, n * 2, none⟩) (fun e => h.ne e.symm) a).far (p := ⟨g, n * 2 + 1, none⟩) (fun e => h.ne e.symm) b
theorem App.blk {A n : Nat} {w4 w9 : World} {xs : List Value} {av : Value} {g c : Nat} (h : App A n w4 w9 xs av g c) : exB A av g ∨ w4.heap.size ≤ g := h.at_.imp Or.inr (by omega)
/-- The element is stored, then the variable; or the other way round. -/
theorem App.fin {A n : Nat} {w4 w9 : World} {xs : List Value} {av : Value} {g c : Nat} {x nv : Value} (h : App A n w4 w9 xs av g c) (hl : xs.length = n * 2) (k : Has w9 (A + 3) #[x]) (s v : Value) :
    (Lt (exB A av) w4 (((w9.setCell ⟨g, n * 2, none⟩ s).setCell ⟨g, n * 2 + 1, none⟩ v).setCell ⟨A + 3, 0, none⟩ nv) ∧ (((w9.setCell ⟨g, n * 2, none⟩ s).setCell ⟨g, n * 2 + 1, none⟩ v).setCell ⟨A + 3, 0, none⟩ nv).ownsRow (A + 4) 27 2 (.slice (some ⟨g, 0, none⟩) (n + 1) c) (n + 1) (xs ++ [s, v]) ∧ Has (((w9.setCell ⟨g, n * 2, none⟩ s).setCell ⟨g, n * 2 + 1, none⟩ v).setCell ⟨A + 3, 0, none⟩ nv) (A + 3) #[nv]) ∧
    (Lt (exB A av) w4 (((w9.setCell ⟨A + 3, 0, none⟩ nv).setCell ⟨g, n * 2, none⟩ s).setCell ⟨g, n * 2 + 1, none⟩ v) ∧ (((w9.setCell ⟨A + 3, 0, none⟩ nv).setCell ⟨g, n * 2, none⟩ s).setCell ⟨g, n * 2 + 1, none⟩ v).ownsRow (A + 4) 27 2 (.slice (some ⟨g, 0, none⟩) (n + 1) c) (n + 1) (xs ++ [s, v]) ∧ Has (((w9.setCell ⟨A + 3, 0, none⟩ nv).setCell ⟨g, n * 2, none⟩ s).setCell ⟨g, n * 2 + 1, none⟩ v) (A + 3) #[nv]) :=
  ⟨⟨((h.lt.put h.blk s).put h.blk v).put (Or.inl (Or.inl rfl)) nv, ownsRow_setCell_below (fin1 h.row hl) (by show A + 3 < A + 4; omega) nv, (h.far k s v).set 0 nv⟩,
   ⟨((h.put nv).lt.put h.blk s).put h.blk v, fin1 (h.put nv).row hl, (h.put nv).far (k.set 0 nv) s v⟩⟩
/-- What a call of the closure leaves. -/
def AddQ (N A : Nat) (w : World) (L : List (Tm × Value)) (av : Value) (e : Ending) (w' : World) : Prop :=
  e = .returned (.tuple #[]) ∧ ∃ (L' : List (Tm × Value)) (M' : List ByteArray) (av' : Value), St N ((N + 3) * 20 ^ 4) (20 ^ 4) A w' L' M' av' ∧ L.length ≤ L'.length ∧ L'.length ≤ L.length + 1 ∧ Lt (exA A av) w w' ∧ ∀ k, av'.ownBlock = some k → av.ownBlock = some k ∨ w.heap.size ≤ k
theorem add_end {N A g c : Nat} {w w4 wF : World} {L : List (Tm × Value)} {M : List ByteArray} {av tv : Value} {t : Tm} {okt : Nat → Prop} {S : ByteArray} (hav : ∀ k, av.ownBlock = some k → A + 4 ≤ k) (L4 : Lt (exA A av) w w4) (N4 : Has w4 (A + 2) #[.map (some (A + 1))])
    (M4 : w4.ownsMap Tryz.prog 9 (plainElem (H := Unit) Tryz.prog 4) (A + 1) (L.length + 1) (Dof (M ++ [S]))) (O4 : OwnA (· < A) (A + 4) w4 L av) (hM : ∀ x ∈ M, x.size ≤ maxLen) (hL : ∀ x ∈ L, GT N ((N + 3) * 20 ^ 4) (20 ^ 4) x.1) (hS : S.size ≤ maxLen) (hG : GT N ((N + 3) * 20 ^ 4) (20 ^ 4) t)
    (hok : ∀ b, okt b → (b < A ∨ A + 4 ≤ b) ∧ b < w4.heap.size ∧ av.ownBlock ≠ some b) (ht : SlIn okt w4 t.args tv) (hn : t.nm.size ≤ maxLen) (LF : Lt (exB A av) w4 wF)
    (hrow : wF.ownsRow (A + 4) 27 2 (.slice (some ⟨g, 0, none⟩) (L.length + 1) c) (L.length + 1) (flatL L ++ [.string t.nm, tv])) (hat : av.ownBlock = some g ∨ g = w4.heap.size + 1) (hc : Has wF (A + 3) #[.slice (some ⟨g, 0, none⟩) (L.length + 1) c]) :
    AddQ N A w L av (.returned (.tuple #[])) wF := by
  have hw := L4.size
  have nb : ∀ i, i = A + 1 ∨ i = A + 2 → ¬ exB A av i := fun i hi e => by
    rcases e with e | e
    · omega
    · have := hav i e; omega
  refine ⟨rfl, L ++ [(t, tv)], M ++ [S], .slice (some ⟨g, 0, none⟩) (L.length + 1) c, ⟨LF.has N4 (nb _ (Or.inr rfl)), hc, own_fin O4 hok ht hn hrow (LF.mono fun i e => Or.inr e) (hat.imp id (by omega)), ?_, ?_, ?_⟩, by simp, by simp, L4.trans (LF.mono fun i e => Or.inr e), fun k e => ?_⟩
  · rw [List.length_append]
    exact LF.map M4 (nb _ (Or.inl rfl))
  · intro x hx
    rcases List.mem_append.1 hx with hx | hx
    · exact hM x hx
    · obtain rfl := List.mem_singleton.1 hx
      exact hS
  · intro x hx
    rcases List.mem_append.1 hx with hx | hx
    · exact hL x hx
    · obtain rfl := List.mem_singleton.1 hx
      exact hG
  · have e' : g = k := by simpa [Value.ownBlock] using e
    subst e'
    exact hat.imp id (by omega)
set_option maxRecDepth 100000 in
set_option maxHeartbeats 3200000 in
theorem add_any (N A : Nat) (w : World) (L : List (Tm × Value)) (M : List ByteArray) (av : Value) (h : St N ((N + 3) * 20 ^ 4) (20 ^ 4) A w L M av) (hl : L.length ≤ 10000000) (t : Tm) (tv : Value) (okt : Nat → Prop) (hok : ∀ b, okt b → (b < A ∨ A + 4 ≤ b) ∧ b < w.heap.size ∧ av.ownBlock ≠ some b)
    (ht : SlIn okt w t.args tv) (hn : t.nm.size ≤ maxLen) (hg : GN N t) (hk : klen t ≤ 4611686018427387904) (hz : sizeT t ≤ 1000000000000) :
    Calls Tryz.prog 104 #[.agg #[.string t.nm, tv], .pointer (some ⟨A + 2, 0, none⟩), .pointer (some ⟨A + 3, 0, none⟩)] w (AddQ N A w L av) := by
  obtain ⟨i0, hi, hz0, hz1, hz2⟩ := info_parts Tryz.info28
  obtain ⟨p, c, rfl⟩ := ht.form
  obtain ⟨va, vc, rfl⟩ := h.own.form
  have hA : A + 4 ≤ w.heap.size := h.cell.lt
  obtain ⟨W1, hW1⟩ : ∃ W1, W1 = w.alloc (.cells #[.string t.nm, .slice p t.args.length c] 27) := ⟨_, rfl⟩
  have G1 : Hid (Below w.heap.size w W1) := Lib.hid (by rw [hW1]; exact below_alloc _ _)
  have T1 : Hid (Has W1 w.heap.size #[.string t.nm, .slice p t.args.length c]) := Lib.hid (by rw [hW1]; exact Has.new _ _ _)
  have hk2 := hk
  have FT := Lib.hid (fun w' (g : Below w.heap.size w w') => ht.frame (w' := w') fun b o hb => g.cell (p := ⟨b, o, none⟩) (hok b hb).2.1)
  have CK := Lib.hid (fun w' (g : Below w.heap.size w w') => LigC.key_any t w.heap.size w' _ g.size ((FT.out w' g).weaken fun b hb => (hok b hb).2.1) hk2)
  have CL := Lib.hid (fun w' (g : Below w.heap.size w w') => LigB.levels_any t w.heap.size w' _ g.size ((FT.out w' g).weaken fun b hb => (hok b hb).2.1) hz)
  have SS := Lib.hid (fun w' (g : Below w.heap.size w w') => h.gr g)
  have OL := Lib.hid h.own.1.lt
  have HK := Lib.hid (And.intro hk hn)
  have HG := Lib.hid (gt_new (t := t) hg)
  have HOK := Lib.hid hok
  have hA1 := Lib.hid hA
  generalize hn' : t.nm = n at *
  have HN := Lib.hid hn'
  generalize ha' : t.args.length = a at *
  have HA := Lib.hid ha'
  clear h hok ht hn hk hz hk2 hg hn' ha'
  obtain ⟨x1, x2, x3, x4, x5⟩ := T1.out.two
  go_enter Tryz.func104, Tryz.ntmps104
  go_upto_region 1 with fail
  rw [← hW1]
  clear hW1
  go_wp2_with fail
  refine (CK.out _ G1.out).mono ?_
  rintro e w2 ⟨S, rfl, hS, g2⟩
  have D2 := Lib.hid (next0 G1.out g2.1)
  have T2 := Lib.hid (T1.out.step0 g2.1)
  have S2 := Lib.hid (SS.out w2 D2.out)
  have hSz : S.size ≤ maxLen := by have := HK.out.1; unfold maxLen; omega
  have LK := look_bool S2.out.map S2.out.keys S hSz
  have HKS : keyOf Tryz.prog 9 (.string S) = some (.string S.data.toList) := keyOf_string_mk Tryz.underlying9 hSz
  have k1 := S2.out.known.cell 0
  have k2 := S2.out.known.free 0
  have k3 := S2.out.known.lt
  clear x1 x2 x3 x4 x5 g2 T1 CK hS
  obtain ⟨x1, x2, x3, x4, x5⟩ := T2.out.two
  cases hh : hasB M S
  · rw [hh] at LK
    go_wp2_with fail
    refine (CL.out _ (by first | exact D2.out | exact D2.out.drew | exact below_drewN D2.out _)).mono ?_
    rintro e w3 ⟨rfl, g3⟩
    have W3 : Hid (Below w2.heap.size w2 w3) := Lib.hid (by first | exact g3.1 | exact next0 (Below.refl _ _).drew g3.1 | exact next0 (below_drewN (Below.refl _ _) _) g3.1)
    have D3 := Lib.hid (next0 D2.out W3.out)
    have T3 := Lib.hid (T2.out.step0 W3.out)
    have S3 := Lib.hid (SS.out w3 D3.out)
    clear x1 x2 x3 x4 x5 k1 k2 k3 g3 LK CL T2
    have k1 := S3.out.known.cell 0
    have k2 := S3.out.known.free 0
    have k3 := S3.out.known.lt
    obtain ⟨x1, x2, x3, x4, x5⟩ := T3.out.two
    have A0 : L.length < maxLen := by unfold maxLen; omega
    by_cases hd : depthT t ≤ 4
    · have hdi : ((depthT t : Nat) : Int) ≤ 4 := by omega
      have HG4 := Lib.hid (HG.out hd)
      have D0 := Lib.hid (Dof_snoc M S)
      have SM := Lib.hid S3.out.map
      go_upto_region 4 with (at_mapUpdate; refine wpList_mapUpdate_own _ rfl _ _ _ 92 rfl 9 4 law Tryz.underlying92 _ (A + 1) L.length _ rfl SM.out A0 _ _ _ rfl rfl HKS _ [] (plainElem_bool (H := Unit) Tryz.underlying4 true) ?_; intro w4 hown4 hgrow4)
      have M4 := Lib.hid (by rw [← D0.out] at hown4; exact hown4)
      have X4 : Hid (Lt (· = A + 1) w3 w4) := Lib.hid ((Lt.of (Below.refl _ _)).grown hgrow4 (fun k e => Or.inl (by cases e; rfl)))
      have T4 := Lib.hid (X4.out.has T3.out (by omega))
      have C4 := Lib.hid (X4.out.has S3.out.cell (by omega))
      have N4 := Lib.hid (X4.out.has S3.out.known (by omega))
      have O4 := Lib.hid (own_lt S3.out.own X4.out (fun i e => by subst e; exact ⟨by omega, by omega⟩))
      have B4 := Lib.hid (And.intro S3.out.keys S3.out.good)
      have TT4 := Lib.hid ((FT.out w3 D3.out).frame (w' := w4) fun b o hb => X4.out.cell (Nat.lt_of_lt_of_le (HOK.out b hb).2.1 D3.out.size) (fun e => by have := (HOK.out b hb).1; omega))
      have L4 : Hid (Lt (exA A (.slice va L.length vc)) w w4) := Lib.hid ((Lt.of D3.out).grown hgrow4 (fun k e => Or.inl (Or.inl (by cases e; rfl))))
      clear hown4 hgrow4 k1 k2 k3 x1 x2 x3 x4 x5 SM T3 S3 D0 hd hdi
      have hA4 : A + 4 ≤ w4.heap.size := C4.out.lt
      have hw4 : w.heap.size ≤ w4.heap.size := L4.out.size
      obtain ⟨x1, x2, x3, x4, x5⟩ := T4.out.two
      have c1 := C4.out.cell 0
      have c2 := C4.out.free 0
      have c3 := C4.out.lt
      have A1 : L.length + 1 ≤ maxLen := by unfold maxLen; omega
      have A2 : (L.length + 1) * 40 ≤ 140737488355328 := by omega
      have hzb : A + 4 ≤ (w4.alloc (.cells #[.string ⟨#[]⟩, .slice none 0 0] 27)).heap.size := by simp; omega
      have nv1 : (Value.slice va L.length vc).ownBlock ≠ some (A + 3) := fun e => by have := OL.out _ e; omega
      have hxn : ∀ k, (Value.slice va L.length vc).ownBlock = some k → k ≠ w.heap.size := fun k e => by have := OL.out _ e; omega
      have hlt1 : ((L.length : Int) < (L.length : Int) + 1) := by omega
      have hne3 : ∀ k, (Value.slice va L.length vc).ownBlock = some k ∨ k = w4.heap.size + 1 → k ≠ A + 3 := fun k e => by
        rcases e with e | e
        · have := OL.out _ e; omega
        · omega
      have HN3 := Lib.hid hne3
      have hflat := flatL_len L
      have HFL := Lib.hid hflat
      clear hne3 hflat
      go_wp2_with fail
      go_region_law (first
        | (refine step_append_lies _ rfl _ _ 25 rfl (A + 4) 27 i0 (.agg #[.string ⟨#[]⟩, .slice none 0 0]) 2 40 Tryz.underlying25 hi hz0 hz1 hz2 rfl (by decide) (.slice va L.length vc) L.length (flatL L) rfl (O4.out.1.alloc _) ⟨w4.heap.size, 0, none⟩ 1 1 [.string ⟨#[]⟩, .slice none 0 0] rfl rfl (news2 _ _ _ _) (one2 _ _ _ _) (by decide) A1 A2 hzb (w4.heap.size + 1) (by simp) ?_; (intro g9 c9 w9 hown hgrow hat hlt9; have P9 := Lib.hid (App.mk hown ((Lt.of (below_alloc w4 (.cells #[.string ⟨#[]⟩, .slice none 0 0] 27)).drew).grown hgrow (fun k e => Or.inl (Or.inr e))) hat (HN3.out g9 hat)); have C9 := Lib.hid (UniD.Has.grown (C4.out.alloc _).drew hgrow nv1); have T9 := Lib.hid (UniD.Has.grown (T4.out.alloc _).drew hgrow (fun e => hxn _ e rfl)); obtain ⟨v1, v2, v3, v4, v5⟩ := T9.out.two; have r1 := App.c0 P9.out HFL.out; have r2 := App.c1 P9.out HFL.out; have r3 := hown.frozenAt (L.length * 2); have r4 := hown.frozenAt (L.length * 2 + 1); have PU := Lib.hid (fun u => App.put P9.out u); have s1 := fun u => App.c0 (PU.out u) HFL.out; have s2 := fun u => App.c1 (PU.out u) HFL.out; have s3 := fun u => (PU.out u).row.frozenAt (L.length * 2); have s4 := fun u => (PU.out u).row.frozenAt (L.length * 2 + 1); have e1 := C9.out.cell 0; have e2 := C9.out.free 0; have e3 := C9.out.lt; have CF := Lib.hid (App.far P9.out C9.out); have e4 := fun a b => (CF.out a b).cell 0; have e5 := fun a b => (CF.out a b).free 0; clear hown hgrow hat)))
      all_goals
        go_wp2_with fail
        refine bodyPost_ret (v := .tuple #[]) (by simp [results, Tryz.results104, go_sem]) rfl ?_
        have AF := App.fin (nv := .slice (some ⟨g9, 0, none⟩) (L.length + 1) c9) P9.out HFL.out C9.out (.string n) (.slice p a c)
        have hokw : ∀ b, okt b → (b < A ∨ A + 4 ≤ b) ∧ b < w4.heap.size ∧ (Value.slice va L.length vc).ownBlock ≠ some b := fun b hb => ⟨(HOK.out b hb).1, Nat.lt_of_lt_of_le (HOK.out b hb).2.1 hw4, (HOK.out b hb).2.2⟩
        first
          | exact add_end (t := t) (fun k e => (OL.out k e).1) L4.out N4.out M4.out O4.out B4.out.1 B4.out.2 hSz HG4.out hokw (by rw [HA.out] at TT4; exact TT4.out) (by rw [HN.out]; exact HK.out.2) AF.1.1 (by rw [HN.out]; exact AF.1.2.1) P9.out.at_ AF.1.2.2
          | exact add_end (t := t) (fun k e => (OL.out k e).1) L4.out N4.out M4.out O4.out B4.out.1 B4.out.2 hSz HG4.out hokw TT4.out (by rw [HN.out]; exact HK.out.2) AF.1.1 (by rw [HN.out]; exact AF.1.2.1) P9.out.at_ AF.1.2.2
          | exact add_end (t := t) (fun k e => (OL.out k e).1) L4.out N4.out M4.out O4.out B4.out.1 B4.out.2 hSz HG4.out hokw TT4.out (by rw [HN.out]; exact HK.out.2) AF.2.1 (by rw [HN.out]; exact AF.2.2.1) P9.out.at_ AF.2.2.2
    · have hdi : ¬ ((depthT t : Nat) : Int) ≤ 4 := by omega
      go_wp2_with fail
      refine bodyPost_ret (v := .tuple #[]) (by simp [results, Tryz.results104, go_sem]) rfl ?_
      exact ⟨rfl, L, M, _, S3.out, Nat.le_refl _, Nat.le_succ _, Lt.of D3.out, fun k hk => Or.inl hk⟩
  · rw [hh] at LK
    go_wp2_with fail
    refine bodyPost_ret (v := .tuple #[]) (by simp [results, Tryz.results104, go_sem]) rfl ?_
    exact ⟨rfl, L, M, _, S2.out, Nat.le_refl _, Nat.le_succ _, Lt.of D2.out, fun k hk => Or.inl hk⟩
end LigY
end Go.Proofs.YtihbnonbhelbmaaGreatDoor
/- Rows of literals of the call's own, whose terms lie in blocks of a kind or in new ones. No conditions. -/
namespace Go.Proofs.YtihbnonbhelbmaaGreatDoor
open Go Go.RowKit
namespace UnqA
open LexM TermM TermI Kit TermN TermU UniK UniM LigY
/-- As OwnG, with a kind for what is behind the elements. -/
def OwnX {α : Type} (K : Kd α) (ok0 : Nat → Prop) (base : Nat) (w : World) (L : List α) (v : Value) : Prop :=
  w.ownsRow base K.ty 3 v L.length (K.flat L) ∧ ∃ ok : Nat → Prop, (∀ b, ok b → (ok0 b ∨ base ≤ b) ∧ b < w.heap.size ∧ v.ownBlock ≠ some b) ∧ ∀ x ∈ L, K.inn ok w x
section
variable {α : Type} {K : Kd α} {ok0 : Nat → Prop} {base : Nat} {w w' : World} {L : List α} {v : Value}
theorem OwnX.nil (ok0 : Nat → Prop) (base : Nat) (w : World) : OwnX K ok0 base w [] (.slice none 0 0) :=
  ⟨⟨rfl, Or.inl ⟨rfl, rfl⟩⟩, fun _ => False, fun b h => h.elim, fun x h => by simp at h⟩
theorem OwnX.form (h : OwnX K ok0 base w L v) : ∃ a c, v = .slice a L.length c := by
  rcases h.1.2 with ⟨e, hz⟩ | ⟨g, cap, cur, e, _⟩
  · exact ⟨none, 0, by rw [e, hz]⟩
  · exact ⟨_, cap, e⟩
theorem OwnX.lt {ex : Nat → Prop} (h : OwnX K ok0 base w L v) (g : Lt ex w w') (hx : ∀ i, ex i → i < base ∧ ¬ ok0 i) : OwnX K ok0 base w' L v := by
  obtain ⟨h1, ok, h2, h3⟩ := h
  have hl := h1.lt
  have nx : ∀ i, ok i → ¬ ex i := fun i hi e => by
    rcases (h2 i hi).1 with h | h
    · exact (hx i e).2 h
    · have := (hx i e).1; omega
  refine ⟨⟨h1.1, ?_⟩, ok, fun b hk => ⟨(h2 b hk).1, Nat.lt_of_lt_of_le (h2 b hk).2.1 g.size, (h2 b hk).2.2⟩, fun x hx' => K.keep (h3 x hx') fun b o hk => g.cell (h2 b hk).2.1 (nx b hk)⟩
  rcases h1.2 with h | ⟨k, cap, cur, e1, e2, e3, e4⟩
  · exact Or.inl h
  · have hk := hl k (by rw [e1]; rfl)
    exact Or.inr ⟨k, cap, cur, e1, e2, (g.block k hk.2 (fun e => by have := (hx k e).1; omega)).trans e3, e4⟩
theorem OwnX.below (h : OwnX K ok0 base w L v) (g : Below w.heap.size w w') : OwnX K ok0 base w' L v := h.lt (ex := fun _ => False) (Lt.of g) fun _ e => e.elim
theorem OwnX.add {w2 w3 : World} {g cap : Nat} {x : α} {ok' : Nat → Prop} (h : OwnX K ok0 base w2 L v) (hs : K.inn ok' w2 x) (hok : ∀ b, ok' b → (ok0 b ∨ base ≤ b) ∧ b < w2.heap.size ∧ v.ownBlock ≠ some b)
    (hown : w3.ownsRow base K.ty 3 (.slice (some ⟨g, 0, none⟩) (L.length + 1) cap) (L.length + 1) (K.flat L ++ K.cells x)) (hlt : Lt (fun b => v.ownBlock = some b) w2 w3) (hat : v.ownBlock = some g ∨ w2.heap.size ≤ g) :
    OwnX K ok0 base w3 (L ++ [x]) (.slice (some ⟨g, 0, none⟩) (L.length + 1) cap) := by
  obtain ⟨h1, ok, h2, h3⟩ := h
  refine ⟨by rw [List.length_append, flat_app, flat_one]; exact hown, fun b => ok b ∨ ok' b, fun b hk => ?_, fun y hy => ?_⟩
  · have hb2 : (ok0 b ∨ base ≤ b) ∧ b < w2.heap.size ∧ v.ownBlock ≠ some b := by
      rcases hk with hk | hk
      · exact h2 b hk
      · exact hok b hk
    refine ⟨hb2.1, Nat.lt_of_lt_of_le hb2.2.1 hlt.size, fun e => ?_⟩
    have e' : g = b := by simpa [Value.ownBlock] using e
    rcases hat with h | h
    · exact hb2.2.2 (by rw [h, e'])
    · omega
  · rcases List.mem_append.1 hy with hy | hy
    · exact K.wide (K.keep (h3 y hy) fun b o hk => hlt.cell (h2 b hk).2.1 (h2 b hk).2.2) fun b hk => Or.inl hk
    · obtain rfl := List.mem_singleton.1 hy
      exact K.wide (K.keep hs fun b o hk => hlt.cell (hok b hk).2.1 (hok b hk).2.2) fun b hk => Or.inr hk
theorem OwnX.row (h : OwnX K ok0 base w L v) : RowG K (fun b => ok0 b ∨ (base ≤ b ∧ b < w.heap.size)) w L v := by
  obtain ⟨h1, ok, h2, h3⟩ := h
  have hl := h1.lt
  have h3' : ∀ x ∈ L, K.inn (fun b => ok0 b ∨ (base ≤ b ∧ b < w.heap.size)) w x := fun x hx => K.wide (h3 x hx) fun b hk => (h2 b hk).1.imp id fun h => ⟨h, (h2 b hk).2.1⟩
  rcases h1.2 with ⟨e, hz⟩ | ⟨g, cap, cur, e, e2, e3, e4, e5, _⟩
  · exact ⟨none, 0, by rw [e, hz], by omega, Nat.zero_le _, h3', fun h => by omega⟩
  · subst e
    refine ⟨_, cap, rfl, e4, e5, h3', fun _ => ⟨g, 0, rfl, Or.inr (hl g rfl), fun i x hx j u hu => ?_⟩⟩
    have hi := (List.getElem?_eq_some_iff.1 hx).1
    have hj := (List.getElem?_eq_some_iff.1 hu).1
    rw [K.len] at hj
    rw [show 0 + i * 3 + j = i * 3 + j by omega]
    exact (h1.cellAt _ (by omega)).trans (flat_get L i x hx j u hu)
end
/-- What comes of a literal. -/
def atomsL (φ : Tm → Tm) (l : List Lt) : List Lt := l.map fun x => (x.1, φ x.2)
theorem atoms_next {φ : Tm → Tm} {l : List Lt} {k : Nat} {x : Lt} (h : l[k]? = some x) : atomsL φ (l.take (k + 1)) = atomsL φ (l.take k) ++ [(x.1, φ x.2)] := by
  unfold atomsL
  rw [take_get l k x h, List.map_append]
  rfl
/-- What a rule's replacement leaves; what it holds lies in blocks of the kind or in new ones. -/
def RuX (ok0 : Nat → Prop) (h : Tm) (l : List Lt) (w : World) (e : Ending) (w' : World) : Prop :=
  ∃ (q : Option Addr) (d : Nat) (v : Value), e = .returned (.agg #[.string h.nm, .slice q h.args.length d, v]) ∧ SlIn (fun b => ok0 b ∨ (w.heap.size ≤ b ∧ b < w'.heap.size)) w' h.args (.slice q h.args.length d) ∧ LIn (fun b => ok0 b ∨ (w.heap.size ≤ b ∧ b < w'.heap.size)) w' l v ∧ h.nm.size ≤ maxLen ∧ Below w.heap.size w w'
end UnqA
end Go.Proofs.YtihbnonbhelbmaaGreatDoor
/- What Light's walk wants of rules, atoms and ways, plain and in memory. No conditions. -/
namespace Go.Proofs.YtihbnonbhelbmaaGreatDoor
open Go Go.RowKit Go.Maps Go.WideMaps
namespace LigZ
open Kit LexM TermM TermI TermN TermU TermE UniM UniK UniA UniD UniE UniG UniR LigM LigP LigG LigD LigQ LigE LigW LigV LigU LigX LigY
theorem klenL_size {N : Nat} : ∀ {l : List Tm}, (∀ x ∈ l, klen x + 1 ≤ sizeT x * (N + 3)) → klenL l ≤ sizeL l * (N + 3)
  | [], _ => by simp [klenL]
  | t :: l, h => by
    have h1 := h t (by simp)
    have h2 := klenL_size (l := l) fun x hx => h x (by simp [hx])
    simp only [klenL, sizeL, Nat.add_mul]
    omega
theorem klen_size {N : Nat} (t : Tm) (hg : GN N t) : klen t + 1 ≤ sizeT t * (N + 3) := by
  induction t using Tm.ind with
  | h n l ih =>
    have h1 := klenL_size (N := N) (l := l) fun x hx => ih x hx (gn_arg hg hx)
    have h2 : n.size ≤ N := gn_nm hg
    simp only [klen, sizeT, Nat.add_mul]
    omega
/-- Blocks in which what an atom holds may lie: none of the closure's own, none made later, not the atoms' row. -/
def okz (A B : Nat) (av : Value) (b : Nat) : Prop := (b < A ∨ A + 4 ≤ b) ∧ b < B ∧ av.ownBlock ≠ some b
theorem own_at {A : Nat} {w : World} {L : List (Tm × Value)} {av : Value} (h : OwnA (· < A) (A + 4) w L av) : AtR (okz A w.heap.size av) A w (L.map (·.1)) av := by
  obtain ⟨h1, ok, h2, h3⟩ := h
  have hl := h1.lt
  have hm : (L.map (·.1)).length = L.length := by simp
  rcases h1.2 with ⟨rfl, hz⟩ | ⟨g, cap, cur, rfl, e2, e3, e4, e5, e6, e7⟩
  · exact ⟨none, 0, by rw [hm, hz], fun k hk => by omega⟩
  · refine ⟨_, cap, by rw [hm], fun k hk => ?_⟩
    have hk' : k < L.length := by omega
    obtain ⟨x, hx⟩ : ∃ x, L[k]? = some x := ⟨L[k], by simp [hk']⟩
    obtain ⟨f1, f2⟩ := flatL_get L k x hx
    have hxs := h3 x (List.mem_of_getElem? hx)
    obtain ⟨q, d, eq⟩ := hxs.1.form
    have hg := hl g rfl
    refine ⟨x.1, g, 0, q, d, by simp [hx], rfl, ⟨hg.2, by omega⟩, ?_, ?_, ?_, hxs.2⟩
    · rw [Nat.zero_add]
      exact (h1.cellAt _ (by omega)).trans f1
    · rw [Nat.zero_add, h1.cellAt _ (by omega), f2, eq]
    · rw [← eq]
      exact hxs.1.weaken fun b hk => h2 b hk
theorem Lt.ofCh {r : Nat} {a b : World} (h : Ch r a b) : Lt (· = r) a b := ⟨h.os, h.tape, h.output, h.size, fun i hi hn => h.block i hi (fun e => hn (Option.some.inj e))⟩
theorem St.ch {N K Z A : Nat} {a b : World} {L : List (Tm × Value)} {M : List ByteArray} {av : Value} (h : St N K Z A a L M av) (g : Ch A a b) : St N K Z A b L M av :=
  ⟨(Lt.ofCh g).has h.known (by omega), (Lt.ofCh g).has h.cell (by omega), own_lt h.own (Lt.ofCh g) (fun i e => by subst e; exact ⟨by omega, by omega⟩), (Lt.ofCh g).map h.map (by omega), h.keys, h.good⟩
/-- The rules of a list, three cells each. -/
theorem rin_row {ok : Nat → Prop} {w : World} {l : List Rl} {p : Option Addr} {n c : Nat} (h : RIn ok w l (.slice p n c)) (k : Nat) (hk : k < l.length) : ∃ x g o q d q2 d2, l[k]? = some x ∧ p = some ⟨g, o, none⟩ ∧ ok g ∧ w.cell? ⟨g, o + k * 3, none⟩ = some (.string x.1.nm) ∧ w.cell? ⟨g, o + k * 3 + 1, none⟩ = some (.slice q x.1.args.length d) ∧
    w.cell? ⟨g, o + k * 3 + 1 + 1, none⟩ = some (.slice q2 x.2.length d2) ∧ SlIn ok w x.1.args (.slice q x.1.args.length d) ∧ x.1.nm.size ≤ maxLen ∧ LIn ok w x.2 (.slice q2 x.2.length d2) := by
  obtain ⟨L, rfl, p', c', e, h1, h2, h3, h4⟩ := h
  cases e
  have hk' : k < L.length := by simpa using hk
  obtain ⟨g, o, e1, e2, e3⟩ := h4 (by omega)
  obtain ⟨x, hx⟩ : ∃ x, L[k]? = some x := ⟨L[k], by simp [hk']⟩
  obtain ⟨s1, s2, s3⟩ := h3 x (List.mem_of_getElem? hx)
  obtain ⟨q, d, eq⟩ := s1.form
  obtain ⟨q2, d2, eq2⟩ := s3.form
  refine ⟨x.1, g, o, q, d, q2, d2, by simp [hx], e1, e2, e3 k x hx 0 _ rfl, ?_, ?_, by rw [← eq]; exact s1, s2, by rw [← eq2]; exact s3⟩
  · rw [← eq]; exact e3 k x hx 1 _ rfl
  · rw [← eq2]; exact e3 k x hx 2 _ rfl
/-- What may be handed to the closure. -/
def Gm (N : Nat) (t : Tm) : Prop := GN N t ∧ klen t ≤ 4611686018427387904 ∧ sizeT t ≤ 1000000000000
theorem gm_inst {N : Nat} (hN : (N + 3) * 4000000 ≤ 4611686018427387904) {t u : Tm} (ht : GN N t) (hs : sizeT t ≤ 20) (hu : GN N u ∧ klen u ≤ klen t + sizeT t * ((N + 3) * 20 ^ 4) ∧ sizeT u ≤ sizeT t * 20 ^ 4) : Gm N u := by
  obtain ⟨h1, h2, h3⟩ := hu
  have a := klen_size t ht
  have b : sizeT t * (N + 3) ≤ 20 * (N + 3) := Nat.mul_le_mul_right _ hs
  have c : sizeT t * ((N + 3) * 20 ^ 4) ≤ 20 * ((N + 3) * 20 ^ 4) := Nat.mul_le_mul_right _ hs
  have d : sizeT t * 20 ^ 4 ≤ 20 * 20 ^ 4 := Nat.mul_le_mul_right _ hs
  exact ⟨h1, by omega, by omega⟩
/-- The same arguments under another name. -/
theorem gm_name {N : Nat} (hN : (N + 3) * 4000000 ≤ 4611686018427387904) {t : Tm} {n : ByteArray} (hn : n.size ≤ N) (h4 : n.size ≤ 4) (h : GT N ((N + 3) * 20 ^ 4) (20 ^ 4) t) : Gm N (.mk n t.args) := by
  obtain ⟨m, l⟩ := t
  obtain ⟨h1, h2, h3⟩ := h
  have h1' := h1
  unfold GN at h1'
  simp only [klen] at h2
  simp only [sizeT] at h3
  refine ⟨gn_mk hn h1'.2.1 fun x hx => gn_arg h1 hx, ?_, ?_⟩
  · simp only [klen, Tm.args]; omega
  · simp only [sizeT, Tm.args]; omega
end LigZ
end Go.Proofs.YtihbnonbhelbmaaGreatDoor
/- The reference's decimal. No conditions. -/
namespace Go.Proofs.YtihbnonbhelbmaaGreatDoor
open Go Go.RowKit Go.Lib
namespace UnrE
open LexM TermM TermI Kit TermN TermU TermL TermF TermT UniK
theorem one_row (w : World) (b : UInt8) : (w.alloc (.cells #[.int .u8 b.toNat] 5)).ownsRow w.heap.size 5 1 (.slice (some ⟨w.heap.size, 0, none⟩) 1 1) [b].length (u8s [b]) :=
  ⟨rfl, Or.inr ⟨w.heap.size, 1, #[.int .u8 b.toNat], rfl, Nat.le_refl _, heap_alloc_new _ _, Nat.le_refl _, by unfold maxLen; omega, rfl, rfl⟩⟩
theorem one_conv (w : World) (b : UInt8) : (convert 106 9 (.slice (some ⟨w.heap.size, 0, none⟩) 1 1)).run Tryz.prog (w.alloc (.cells #[.int .u8 b.toNat] 5)) = .ok (.string ⟨#[b]⟩) (w.alloc (.cells #[.int .u8 b.toNat] 5)) := conv_row (one_row w b)
theorem dig (n : Nat) (h : n < 10) : (UInt8.ofNat (48 + n)).toNat = 48 + n := by
  simp [UInt8.toNat_ofNat]
  omega
set_option maxRecDepth 100000 in
set_option maxHeartbeats 1600000 in
theorem small_any (n : Nat) (h : n < 10) (w : World) : Calls Tryz.prog 66 #[.int .i64 n] w fun e w' => e = .returned (.string ⟨(decDigits n).toArray⟩) ∧ Below w.heap.size w w' := by
  have CV := Lib.hid (fun w => one_conv w (UInt8.ofNat (48 + n)))
  rw [dig n h] at CV
  rw [decDigits_one h]
  simp only [Int.natCast_add, Int.cast_ofNat_Int] at CV
  generalize UInt8.ofNat (48 + n) = b at *
  have c1 : ((48 : Int) + (n : Int)) % 256 = 48 + (n : Int) := by omega
  go_enter Tryz.func66, Tryz.ntmps66
  go_wp2_with fail
  rw [CV.out]
  go_wp2_with fail
  go_ret
  exact ⟨rfl, below_alloc _ _⟩
theorem conv_at (b : UInt8) (W : World) (g : Nat) (h : W.ownsRow g 5 1 (.slice (some ⟨g, 0, none⟩) 1 1) [b].length (u8s [b])) : (convert 106 9 (.slice (some ⟨g, 0, none⟩) 1 1)).run Tryz.prog W = .ok (.string ⟨#[b]⟩) W := conv_row h
theorem digs_len (n : Nat) (h : n ≤ 1000000) : (decDigits n).length ≤ 21 := by
  have := Lib.itoa_length_le (n : Int) (by omega) (by omega)
  rw [Lib.itoa_nonneg n] at this
  exact this
theorem app_one (l : List UInt8) (b : UInt8) : (⟨l.toArray⟩ : ByteArray) ++ ⟨#[b]⟩ = ⟨(l ++ [b]).toArray⟩ := Go.WideShapes.bytes_inj (by simp)
set_option maxRecDepth 100000 in
set_option maxHeartbeats 3200000 in
theorem decimal_any (n : Nat) : n ≤ 1000000 → ∀ w : World, Calls Tryz.prog 66 #[.int .i64 n] w fun e w' => e = .returned (.string ⟨(decDigits n).toArray⟩) ∧ Below w.heap.size w w' := by
  induction n using Nat.strongRecOn with
  | ind n ih =>
    intro hn w
    by_cases h : n < 10
    · exact small_any n h w
    have CI := Lib.hid (fun w' => ih (n / 10) (by omega) (by omega) w')
    have RW := Lib.hid (fun w => one_row w (UInt8.ofNat (48 + n % 10)))
    have CV := Lib.hid (conv_at (UInt8.ofNat (48 + n % 10)))
    rw [dig (n % 10) (by omega)] at RW
    rw [show decDigits n = decDigits (n / 10) ++ [UInt8.ofNat (48 + n % 10)] from by rw [decDigits.eq_1 n, dif_neg h], ← app_one]
    have hl := digs_len (n / 10) (by omega)
    have hs : (⟨(decDigits (n / 10)).toArray⟩ : ByteArray).size ≤ 21 := by simpa [ByteArray.size] using hl
    simp only [Int.natCast_add, Int.cast_ofNat_Int, Int.natCast_emod, Int.natCast_ediv] at RW CI
    clear ih hl
    generalize (⟨(decDigits (n / 10)).toArray⟩ : ByteArray) = ds at *
    generalize hb : UInt8.ofNat (48 + n % 10) = b at *
    clear hb
    have hb1 : (⟨#[b]⟩ : ByteArray).size = 1 := rfl
    generalize hB : (⟨#[b]⟩ : ByteArray) = B at *
    clear hB
    have W1 : IntKind.i64.wrap ((n : Int) / 10) = (n : Int) / 10 := by rw [IntKind.wrap_i64]; omega
    have W2 : (n : Int).tmod 10 = (n : Int) % 10 := Int.tmod_eq_emod_of_nonneg (by omega)
    have W3 : IntKind.i64.wrap (48 + (n : Int).tmod 10) = 48 + (n : Int) % 10 := by rw [W2, IntKind.wrap_i64]; omega
    have W4 : IntKind.u8.wrap (IntKind.i64.wrap (48 + (n : Int).tmod 10)) = 48 + (n : Int) % 10 := by rw [W3, IntKind.wrap_u8]; omega
    rw [← W1] at CI
    rw [← W4] at RW
    clear W1 W2 W3 W4
    have c2 : ¬ (n : Int) < 10 := by omega
    go_enter Tryz.func66, Tryz.ntmps66
    go_wp2_with fail
    go_region_with (first
      | (go_at_call 66; (with_reducible refine (CI.out _).mono ?_); rintro e w6 ⟨rfl, hb6⟩; have B6 := Lib.hid hb6; clear hb6)
      | (rw [CV.out _ _ (by first | exact RW.out w.drew | exact RW.out w6 | (have h9 := own_below (RW.out w.drew) B6.out; exact h9) | exact RW.out _)]))
    all_goals
      go_wp2_with fail
      go_ret
      refine ⟨rfl, ?_⟩
      first
        | exact next0 (below_alloc w _).drew B6.out
        | exact next0 (next0 (Below.refl _ _).drew B6.out) (below_alloc _ _)
end UnrE
end Go.Proofs.YtihbnonbhelbmaaGreatDoor
/- Small terms at the bound 20. Made by gensmall.py. No conditions. -/
namespace Go.Proofs.YtihbnonbhelbmaaGreatDoor
open Go Go.RowKit
namespace Sm20
open LexM TermM TermI Kit TermN TermS UniK UniM UniA
set_option maxRecDepth 100000 in
set_option maxHeartbeats 1600000 in
theorem parts_any (D : Nat) : ∀ (t : Tm) (B : Nat) (w : World) (sv : Value), D ≤ 20 → B ≤ w.heap.size → SlIn (· < B) w t.args sv →
    Calls Tryz.prog 49 #[.agg #[.string t.nm, sv], .int .i64 20, .int .i64 D] w fun e w' => e = .returned (.int .i64 (partsT 20 D t)) ∧ Gr w w' := by
  induction D with
  | zero =>
    intro t B w sv hD hB h
    obtain ⟨p, c, rfl, hn, hc, hm, hR⟩ := h.row
    clear hR h
    go_enter Tryz.func49, Tryz.ntmps49
    go_wp2_with fail
    go_ret
    exact ⟨rfl, Gr.alloc _ _⟩
  | succ D ih =>
    rintro ⟨n, l⟩ B w sv hD hB h
    dsimp only [Tm.args, Tm.nm] at h ⊢
    obtain ⟨p, c, rfl, hn, hc, hm, hR⟩ := h.row
    obtain ⟨E, hE⟩ : ∃ E : Int, E = ((D + 1 : Nat) : Int) := ⟨_, rfl⟩
    rw [← hE]
    have hE1 : 1 ≤ E := by omega
    have hE2 : E ≤ 20 := by omega
    have hE3 : (D : Int) = E - 1 := by omega
    have IH : Hid (∀ (t : Tm) (w : World) (v : Value), B ≤ w.heap.size → SlIn (· < B) w t.args v → Calls Tryz.prog 49 #[.agg #[.string t.nm, v], .int .i64 20, .int .i64 (E - 1)] w fun e w' => e = .returned (.int .i64 (partsT 20 D t)) ∧ Gr w w') :=
      Lib.hid (fun t w v hB h => by rw [← hE3]; exact ih t B w v (by omega) hB h)
    clear hE3 hE
    have NX := Lib.hid (upN_next 20 D l)
    have ST := Lib.hid (upN_stuck 20 D l)
    have PB : Hid (∀ t, partsT 20 D t ≤ 20000) := Lib.hid (fun t => by
      have h1 := parts_le 20 D t
      have h2 : (D + 1) * (20 + 1) ≤ 21 * 22 := Nat.le_trans (Nat.mul_le_mul_right 21 (show _ ≤ 22 by omega)) (by decide)
      omega)
    have UB : Hid (∀ k, upN 20 D (l.take k) ≤ 20000) := Lib.hid (fun k => by
      have h1 : upN 20 D (l.take k) = partsT 20 (D + 1) (.mk n (l.take k)) := by simp only [partsT]; rfl
      have h2 := parts_le 20 (D + 1) (.mk n (l.take k))
      have h3 : (D + 1 + 1) * (20 + 1) ≤ 21 * 22 := Nat.le_trans (Nat.mul_le_mul_right 21 (show _ ≤ 22 by omega)) (by decide)
      omega)
    have FL : Hid (upN 20 D (l.take l.length) = upN 20 D l) := Lib.hid (by simp)
    have RT : Hid (partsT 20 (D + 1) (.mk n l) = upN 20 D l) := Lib.hid (by simp only [partsT]; rfl)
    have U0 : Hid (upN 20 D (l.take 0) = 1) := Lib.hid (by simp [upN])
    have HB := Lib.hid hB
    have HR := Lib.hid hR
    generalize partsT 20 (D + 1) (.mk n l) = R at *
    generalize hm' : l.length = m at *
    have HM := Lib.hid hm'
    clear ih hR h hm' hn
    unfold maxLen at hm
    go_enter Tryz.func49, Tryz.ntmps49
    go_wp2_with fail
    go_loopw [7, 16] (fun d i wr => ∃ k : Nat, k ≤ m ∧ i = .int .i64 k ∧ d = .int .i64 (upN 20 D (l.take k)) ∧ Hid (Gr (w.alloc (.cells #[.string n, .slice p m c] 27)) wr)) (fun _ i _ => m - (intOf i).toNat)
    case atStart => exact ⟨0, Nat.zero_le _, rfl, by rw [U0.out]; rfl, Lib.hid (Gr.refl _)⟩
    case round =>
      obtain ⟨k, hk, rfl, rfl, hg⟩ := hrel
      have hd := UB.out k
      by_cases hlt : k < m
      · obtain ⟨t, b, o, q, d, ht, rfl, hb, c1, c2, hs, hts⟩ := (HR.out.gr ((Gr.alloc _ _).trans hg.out) HB.out) k (by rw [HM.out]; exact hlt)
        obtain ⟨b0, b1, _, _, hbl⟩ := (hg.out.has (Has.new w _ _)).two
        have n1 := NX.out k t ht
        have n2 := PB.out t
        by_cases hst : 20 < upN 20 D (l.take k)
        · have HF := Lib.hid (ST.out k hst)
          clear n1
          go_wp2_with fail
          go_ret
          exact ⟨ret_int (by rw [RT.out, HF.out]), (Gr.alloc _ _).trans hg.out⟩
        · rw [if_neg hst] at n1
          have HD := Lib.hid n1
          have HS := Lib.hid hs
          clear n1 ht hs
          have hst' : upN 20 D (l.take k) ≤ 20 := by omega
          go_wp2_with fail
          refine (IH.out _ _ _ (Nat.le_trans HB.out ((Gr.alloc _ _).trans hg.out).size) HS.out).mono ?_
          rintro e w' ⟨rfl, g2⟩
          have hg2 := Lib.hid (hg.out.trans g2)
          clear g2
          go_wp2_with fail
          go_roundw
          case rel => exact ⟨k + 1, by omega, by go_num, by rw [HD.out]; first | rfl | (congr 1; omega), hg2⟩
          case measure => simp [intOf]; omega
      · obtain rfl : k = m := by omega
        have HF := Lib.hid FL.out
        go_wp2_with fail
        go_ret
        exact ⟨ret_int (by rw [RT.out, HF.out]), (Gr.alloc _ _).trans hg.out⟩
theorem small_any (t : Tm) (B : Nat) (w : World) (sv : Value) (hB : B ≤ w.heap.size) (h : SlIn (· < B) w t.args sv) :
    Calls Tryz.prog 25 #[.agg #[.string t.nm, sv], .int .i64 20] w fun e w' => e = .returned (.bool (decide (partsT 20 20 t ≤ 20))) ∧ Gr w w' := by
  obtain ⟨p, c, rfl, hn, hc, hm, hR⟩ := h.row
  have HC : Hid (Calls Tryz.prog 49 #[.agg #[.string t.nm, .slice p t.args.length c], .int .i64 20, .int .i64 20] (w.alloc (.cells #[.string t.nm, .slice p t.args.length c] 27)) fun e w' => e = .returned (.int .i64 (partsT 20 20 t)) ∧ Gr (w.alloc (.cells #[.string t.nm, .slice p t.args.length c] 27)) w') :=
    Lib.hid (parts_any 20 t B _ _ (by omega) (Nat.le_trans hB (Gr.alloc _ _).size) (h.gr (Gr.alloc _ _) hB))
  clear hR h hn
  go_enter Tryz.func25, Tryz.ntmps25
  go_wp2_with fail
  refine HC.out.mono ?_
  rintro e w' ⟨rfl, g2⟩
  have hg2 := Lib.hid ((Gr.alloc _ _).trans g2)
  clear g2
  go_wp2_with fail
  go_ret
  exact ⟨ret_bool (by rw [Bool.eq_iff_iff]; simp; omega), hg2.out⟩
end Sm20
end Go.Proofs.YtihbnonbhelbmaaGreatDoor
/- Small terms at the bound 100; few and same of gameplayerlaw07. Made by genuniv.py. No conditions. -/
namespace Go.Proofs.YtihbnonbhelbmaaGreatDoor
open Go Go.RowKit
namespace UniV
open LexM TermM TermI Kit TermN TermS UniK UniM UniA
set_option maxRecDepth 100000 in
set_option maxHeartbeats 1600000 in
theorem parts_any (D : Nat) : ∀ (t : Tm) (B : Nat) (w : World) (sv : Value), D ≤ 100 → B ≤ w.heap.size → SlIn (· < B) w t.args sv →
    Calls Tryz.prog 49 #[.agg #[.string t.nm, sv], .int .i64 100, .int .i64 D] w fun e w' => e = .returned (.int .i64 (partsT 100 D t)) ∧ Gr w w' := by
  induction D with
  | zero =>
    intro t B w sv hD hB h
    obtain ⟨p, c, rfl, hn, hc, hm, hR⟩ := h.row
    clear hR h
    go_enter Tryz.func49, Tryz.ntmps49
    go_wp2_with fail
    go_ret
    exact ⟨rfl, Gr.alloc _ _⟩
  | succ D ih =>
    rintro ⟨n, l⟩ B w sv hD hB h
    dsimp only [Tm.args, Tm.nm] at h ⊢
    obtain ⟨p, c, rfl, hn, hc, hm, hR⟩ := h.row
    obtain ⟨E, hE⟩ : ∃ E : Int, E = ((D + 1 : Nat) : Int) := ⟨_, rfl⟩
    rw [← hE]
    have hE1 : 1 ≤ E := by omega
    have hE2 : E ≤ 100 := by omega
    have hE3 : (D : Int) = E - 1 := by omega
    have IH : Hid (∀ (t : Tm) (w : World) (v : Value), B ≤ w.heap.size → SlIn (· < B) w t.args v → Calls Tryz.prog 49 #[.agg #[.string t.nm, v], .int .i64 100, .int .i64 (E - 1)] w fun e w' => e = .returned (.int .i64 (partsT 100 D t)) ∧ Gr w w') :=
      Lib.hid (fun t w v hB h => by rw [← hE3]; exact ih t B w v (by omega) hB h)
    clear hE3 hE
    have NX := Lib.hid (upN_next 100 D l)
    have ST := Lib.hid (upN_stuck 100 D l)
    have PB : Hid (∀ t, partsT 100 D t ≤ 20000) := Lib.hid (fun t => by
      have h1 := parts_le 100 D t
      have h2 : (D + 1) * (100 + 1) ≤ 101 * 102 := Nat.le_trans (Nat.mul_le_mul_right 101 (show _ ≤ 102 by omega)) (by decide)
      omega)
    have UB : Hid (∀ k, upN 100 D (l.take k) ≤ 20000) := Lib.hid (fun k => by
      have h1 : upN 100 D (l.take k) = partsT 100 (D + 1) (.mk n (l.take k)) := by simp only [partsT]; rfl
      have h2 := parts_le 100 (D + 1) (.mk n (l.take k))
      have h3 : (D + 1 + 1) * (100 + 1) ≤ 101 * 102 := Nat.le_trans (Nat.mul_le_mul_right 101 (show _ ≤ 102 by omega)) (by decide)
      omega)
    have FL : Hid (upN 100 D (l.take l.length) = upN 100 D l) := Lib.hid (by simp)
    have RT : Hid (partsT 100 (D + 1) (.mk n l) = upN 100 D l) := Lib.hid (by simp only [partsT]; rfl)
    have U0 : Hid (upN 100 D (l.take 0) = 1) := Lib.hid (by simp [upN])
    have HB := Lib.hid hB
    have HR := Lib.hid hR
    generalize partsT 100 (D + 1) (.mk n l) = R at *
    generalize hm' : l.length = m at *
    have HM := Lib.hid hm'
    clear ih hR h hm' hn
    unfold maxLen at hm
    go_enter Tryz.func49, Tryz.ntmps49
    go_wp2_with fail
    go_loopw [7, 16] (fun d i wr => ∃ k : Nat, k ≤ m ∧ i = .int .i64 k ∧ d = .int .i64 (upN 100 D (l.take k)) ∧ Hid (Gr (w.alloc (.cells #[.string n, .slice p m c] 27)) wr)) (fun _ i _ => m - (intOf i).toNat)
    case atStart => exact ⟨0, Nat.zero_le _, rfl, by rw [U0.out]; rfl, Lib.hid (Gr.refl _)⟩
    case round =>
      obtain ⟨k, hk, rfl, rfl, hg⟩ := hrel
      have hd := UB.out k
      by_cases hlt : k < m
      · obtain ⟨t, b, o, q, d, ht, rfl, hb, c1, c2, hs, hts⟩ := (HR.out.gr ((Gr.alloc _ _).trans hg.out) HB.out) k (by rw [HM.out]; exact hlt)
        obtain ⟨b0, b1, _, _, hbl⟩ := (hg.out.has (Has.new w _ _)).two
        have n1 := NX.out k t ht
        have n2 := PB.out t
        by_cases hst : 100 < upN 100 D (l.take k)
        · have HF := Lib.hid (ST.out k hst)
          clear n1
          go_wp2_with fail
          go_ret
          exact ⟨ret_int (by rw [RT.out, HF.out]), (Gr.alloc _ _).trans hg.out⟩
        · rw [if_neg hst] at n1
          have HD := Lib.hid n1
          have HS := Lib.hid hs
          clear n1 ht hs
          have hst' : upN 100 D (l.take k) ≤ 100 := by omega
          go_wp2_with fail
          refine (IH.out _ _ _ (Nat.le_trans HB.out ((Gr.alloc _ _).trans hg.out).size) HS.out).mono ?_
          rintro e w' ⟨rfl, g2⟩
          have hg2 := Lib.hid (hg.out.trans g2)
          clear g2
          go_wp2_with fail
          go_roundw
          case rel => exact ⟨k + 1, by omega, by go_num, by rw [HD.out]; first | rfl | (congr 1; omega), hg2⟩
          case measure => simp [intOf]; omega
      · obtain rfl : k = m := by omega
        have HF := Lib.hid FL.out
        go_wp2_with fail
        go_ret
        exact ⟨ret_int (by rw [RT.out, HF.out]), (Gr.alloc _ _).trans hg.out⟩
theorem small_any (t : Tm) (B : Nat) (w : World) (sv : Value) (hB : B ≤ w.heap.size) (h : SlIn (· < B) w t.args sv) :
    Calls Tryz.prog 25 #[.agg #[.string t.nm, sv], .int .i64 100] w fun e w' => e = .returned (.bool (decide (partsT 100 100 t ≤ 100))) ∧ Gr w w' := by
  obtain ⟨p, c, rfl, hn, hc, hm, hR⟩ := h.row
  have HC : Hid (Calls Tryz.prog 49 #[.agg #[.string t.nm, .slice p t.args.length c], .int .i64 100, .int .i64 100] (w.alloc (.cells #[.string t.nm, .slice p t.args.length c] 27)) fun e w' => e = .returned (.int .i64 (partsT 100 100 t)) ∧ Gr (w.alloc (.cells #[.string t.nm, .slice p t.args.length c] 27)) w') :=
    Lib.hid (parts_any 100 t B _ _ (by omega) (Nat.le_trans hB (Gr.alloc _ _).size) (h.gr (Gr.alloc _ _) hB))
  clear hR h hn
  go_enter Tryz.func25, Tryz.ntmps25
  go_wp2_with fail
  refine HC.out.mono ?_
  rintro e w' ⟨rfl, g2⟩
  have hg2 := Lib.hid ((Gr.alloc _ _).trans g2)
  clear g2
  go_wp2_with fail
  go_ret
  exact ⟨ret_bool (by rw [Bool.eq_iff_iff]; simp; omega), hg2.out⟩
theorem gr_dr {a b : World} (h : Gr a b) : Gr a b.drew := h.trans (Gr.drew b)
theorem ret_b {a b : Bool} (h : a = b) : Ending.returned (Value.bool a) = Ending.returned (Value.bool b) := by rw [h]
/-- At most 80 bindings, whose terms are small. -/
def SmS (s : List Bd) : Prop := s.length ≤ 80 ∧ ∀ y ∈ s, partsT 100 100 y.2 ≤ 100
def FewS (s : List Bd) (w : World) (e : Ending) (w' : World) : Prop := ∃ b : Bool, e = .returned (.bool b) ∧ (b = true → SmS s) ∧ Gr w w'
set_option maxRecDepth 100000 in
set_option maxHeartbeats 1600000 in
theorem few_any (s : List Bd) (B : Nat) (w : World) (sv : Value) (hB : B ≤ w.heap.size) (hs : SIn (· < B) w s sv) :
    Calls Tryz.prog 12 #[sv] w (FewS s w) := by
  obtain ⟨p, c, rfl, hc, hm, hR⟩ := SIn.row hs
  have hlm : s.length ≤ maxLen := Nat.le_trans hc hm
  unfold maxLen at hlm
  have AT := Lib.hid (fun (t : Tm) (w' : World) (v : Value) (hw : B ≤ w'.heap.size) (h : SlIn (· < B) w' t.args v) => small_any t B w' v hw h)
  have HR := Lib.hid hR
  have HB := Lib.hid hB
  clear hR hs hB hc hm
  generalize hln : s.length = n at *
  have HN := Lib.hid hln
  clear hln
  unfold FewS
  by_cases h8 : 80 < n
  · have h8' : (80 : Int) < n := by omega
    go_enter Tryz.func12, Tryz.ntmps12
    go_wp2_with fail
    go_ret
    exact ⟨false, rfl, (fun h => by cases h), Gr.refl _⟩
  · have h8' : ¬ ((80 : Int) < n) := by omega
    go_enter Tryz.func12, Tryz.ntmps12
    go_wp2_with fail
    go_loopw [3] (fun i wL => ∃ k : Nat, k ≤ n ∧ i = .int .i64 k ∧ Hid (Gr w wL) ∧ Hid (∀ j y, j < k → s[j]? = some y → partsT 100 100 y.2 ≤ 100)) (fun i _ => n - (intOf i).toNat)
    case atStart => exact ⟨0, by omega, rfl, Lib.hid (Gr.refl _), Lib.hid (fun j y h => by omega)⟩
    case round =>
      obtain ⟨k, hk, rfl, hG, hA⟩ := hrel
      by_cases hlt : k < n
      · obtain ⟨x, b, o, q, d, ht, rfl, hb, c1, c2, c3, hs, hts, htv⟩ := (RowS.gr HR.out hG.out HB.out) k (by rw [HN.out]; exact hlt)
        have AK := Lib.hid (AT.out x.2 wr _ (Nat.le_trans HB.out hG.out.size) hs)
        obtain ⟨A2, hA2⟩ : ∃ A2, decide (partsT 100 100 x.2 ≤ 100) = A2 := ⟨_, rfl⟩
        have NX := Lib.hid (fun (h : A2 = true) => show ∀ j y, j < k + 1 → s[j]? = some y → partsT 100 100 y.2 ≤ 100 from fun j y hj hy => by
          by_cases e : j = k
          · subst e
            rw [ht] at hy
            cases hy
            rw [h, decide_eq_true_eq] at hA2
            exact hA2
          · exact hA.out j y (by omega) hy)
        rw [hA2] at AK
        clear ht hs hts hA2
        go_wp2_with fail
        refine AK.out.mono ?_
        rintro e w5 ⟨rfl, g5⟩
        have G5 := Lib.hid (hG.out.trans g5)
        clear g5 c1 c2 c3
        cases A2
        · go_wp2_with fail
          go_ret
          exact ⟨false, rfl, (fun h => by cases h), G5.out⟩
        · have N1 := Lib.hid (NX.out rfl)
          go_wp2_with fail
          go_roundw
          case rel => exact ⟨k + 1, by omega, by go_num, G5, N1⟩
          case measure => simp [intOf] <;> omega
      · obtain rfl : k = n := by omega
        have HS : Hid (SmS s) := Lib.hid ⟨by rw [HN.out]; omega, fun y hy => by
          obtain ⟨j, hj⟩ := List.mem_iff_getElem?.1 hy
          exact hA.out j y (by rw [← HN.out]; exact (List.getElem?_eq_some_iff.1 hj).1) hj⟩
        go_wp2_with fail
        go_ret
        exact ⟨true, rfl, (fun _ => HS.out), hG.out⟩
theorem drop_at {s r : List Bd} {k : Nat} {x y : Bd} (h : s[k]? = some x) (h' : r[k]? = some y) : s.drop k = r.drop k ↔ (x.1 = y.1 ∧ x.2 = y.2) ∧ s.drop (k + 1) = r.drop (k + 1) := by
  obtain ⟨h1, rfl⟩ := List.getElem?_eq_some_iff.1 h
  obtain ⟨h2, rfl⟩ := List.getElem?_eq_some_iff.1 h'
  rw [List.drop_eq_getElem_cons h1, List.drop_eq_getElem_cons h2, List.cons.injEq, Prod.ext_iff]
set_option maxRecDepth 100000 in
set_option maxHeartbeats 3200000 in
theorem same_any (s r : List Bd) (R : Bool) (hRR : R = true ↔ s = r) (B : Nat) (w : World) (sv rv : Value) (hB : B ≤ w.heap.size) (hs : SIn (· < B) w s sv) (hr : SIn (· < B) w r rv) :
    Calls Tryz.prog 28 #[sv, rv] w fun e w' => e = .returned (.bool R) ∧ Gr w w' := by
  obtain ⟨p, c, rfl, hc, hm, hR⟩ := SIn.row hs
  obtain ⟨p', c', rfl, hc', hm', hR'⟩ := SIn.row hr
  have hlm : s.length ≤ maxLen := Nat.le_trans hc hm
  unfold maxLen at hlm
  have HR := Lib.hid hR
  have HR' := Lib.hid hR'
  have HB := Lib.hid hB
  have HQ := Lib.hid hRR
  have L1 := Lib.hid (fun k x y (h : s[k]? = some x) (h' : r[k]? = some y) => drop_at h h')
  have L3 := Lib.hid (fun k (h : s.length ≤ k) (h' : r.length ≤ k) => show s.drop k = r.drop k from by rw [List.drop_eq_nil_of_le h, List.drop_eq_nil_of_le h'])
  clear hs hr hR hR' hB hc hm hc' hm' hRR
  generalize hln : s.length = m at *
  generalize hln' : r.length = m' at *
  have HM := Lib.hid hln
  have HM' := Lib.hid hln'
  clear hln hln'
  by_cases hmm : m = m'
  · subst hmm
    have L0 : Hid (R = true ↔ s.drop 0 = r.drop 0) := Lib.hid (by simpa using HQ.out)
    go_enter Tryz.func28, Tryz.ntmps28
    go_wp2_with fail
    go_loopw [5] (fun i wr => ∃ k : Nat, k ≤ m ∧ i = .int .i64 k ∧ Hid (R = true ↔ s.drop k = r.drop k) ∧ Hid (Gr w wr)) (fun i _ => m - (intOf i).toNat)
    case atStart => exact ⟨0, Nat.zero_le _, rfl, L0, Lib.hid (Gr.refl _)⟩
    case round =>
      obtain ⟨k, hk, rfl, hA, hg⟩ := hrel
      by_cases hlt : k < m
      · obtain ⟨t, b, o, q, d, ht, rfl, hb, c1, c2, c3, hs, hts, htv⟩ := (RowS.gr HR.out hg.out HB.out) k (by rw [HM.out]; exact hlt)
        obtain ⟨t', b', o', q', d', ht', rfl, hb', c1', c2', c3', hs', hts', htv'⟩ := (RowS.gr HR'.out hg.out HB.out) k (by rw [HM'.out]; exact hlt)
        have N1 := Lib.hid (hA.out.trans (L1.out k t t' ht ht'))
        have hgb : b < wr.heap.size := Nat.lt_of_lt_of_le hb (Nat.le_trans HB.out hg.out.size)
        have hgb' : b' < wr.heap.size := Nat.lt_of_lt_of_le hb' (Nat.le_trans HB.out hg.out.size)
        obtain ⟨z, hz⟩ : ∃ z : Bool, Hid (z = true ↔ t.2 = t'.2) := ⟨decide (cmpT t.2 t'.2 = 0), Lib.hid (by rw [decide_eq_true_iff]; exact cmp_zero t.2 t'.2)⟩
        have KK := Lib.hid (fun w2 (g : Gr wr w2) => TermEq.term_any t.2 z B w2 _ t'.2 _ hz.out (Nat.le_trans HB.out (hg.out.trans g).size) (hs.gr g (Nat.le_trans HB.out hg.out.size)) (hs'.gr g (Nat.le_trans HB.out hg.out.size)))
        obtain ⟨zz, hzz⟩ : ∃ zz, (t.1.toList == t'.1.toList) = zz := ⟨_, rfl⟩
        have HZ : Hid (t.1 = t'.1 ↔ zz = true) := Lib.hid (by rw [← hzz, beq_iff_eq, ByteArray.toList_eq, ByteArray.toList_eq]; exact ⟨fun h => by rw [h], bytes_inj⟩)
        have hzz2 : (t.1.toList != t'.1.toList) = !zz := by rw [bne, hzz]
        clear hs hs' hts hts' ht ht' hA HR HR' HB hb hb' L0 L1 htv htv'
        generalize t.2.nm = tn at *
        generalize t'.2.nm = tn' at *
        generalize t.2.args.length = ta at *
        generalize t'.2.args.length = ta' at *
        generalize t.1 = tb at *
        generalize t'.1 = tb' at *
        have Hb : Hid (∀ w', Gr wr w' → w'.cell? ⟨b, o + k * 3, none⟩ = some (.string tb) ∧ w'.cell? ⟨b, o + k * 3 + 1, none⟩ = some (.string tn) ∧ w'.cell? ⟨b, o + k * 3 + 1 + 1, none⟩ = some (.slice q ta d) ∧ w'.cell? ⟨b', o' + k * 3, none⟩ = some (.string tb') ∧ w'.cell? ⟨b', o' + k * 3 + 1, none⟩ = some (.string tn') ∧ w'.cell? ⟨b', o' + k * 3 + 1 + 1, none⟩ = some (.slice q' ta' d') ∧ Hid (Gr wr w')) := Lib.hid (fun w' g => ⟨(g.cell hgb).trans c1, (g.cell hgb).trans c2, (g.cell hgb).trans c3, (g.cell hgb').trans c1', (g.cell hgb').trans c2', (g.cell hgb').trans c3', Lib.hid g⟩)
        cases zz
        · have HF : Hid (R = false) := Lib.hid (by
            cases hR9 : R with
            | false => rfl
            | true => have := HZ.out.1 (N1.out.1 hR9).1.1; cases this)
          clear N1 hz KK Hb HZ
          go_upto_region 6 with fail
          go_cut [41] (fun s41 wx => s41 = .bool true ∧ Hid (Gr wr wx))
          case first =>
            go_quiet (fail)
            all_goals
              go_wp2_with fail
              go_meet
              exact ⟨rfl, Lib.hid (by first | exact Gr.drewN _ _ | exact Gr.drew _ | exact Gr.refl _)⟩
          case rest =>
            obtain ⟨rfl, G5⟩ := hcut
            go_wp2_with fail
            go_ret
            exact ⟨ret_b HF.out.symm, hg.out.trans G5.out⟩
        · have N2 : Hid (R = true ↔ z = true ∧ s.drop (k + 1) = r.drop (k + 1)) := Lib.hid (N1.out.trans ⟨fun hh => ⟨hz.out.2 hh.1.2, hh.2⟩, fun hh => ⟨⟨HZ.out.2 rfl, hz.out.1 hh.1⟩, hh.2⟩⟩)
          clear N1 hz HZ
          go_upto_region 6 with fail
          go_cut [41] (fun s41 wx => s41 = .bool (!z) ∧ Hid (Gr wr wx))
          case first =>
            clear c1 c2 c3 c1' c2' c3' N2 HQ
            have hs0 := Hb.out _ (gr_dr (Gr.refl wr))
            go_region_held3 (fun w' => w'.cell? ⟨b, o + k * 3, none⟩ = some (.string tb) ∧ w'.cell? ⟨b, o + k * 3 + 1, none⟩ = some (.string tn) ∧ w'.cell? ⟨b, o + k * 3 + 1 + 1, none⟩ = some (.slice q ta d) ∧ w'.cell? ⟨b', o' + k * 3, none⟩ = some (.string tb') ∧ w'.cell? ⟨b', o' + k * 3 + 1, none⟩ = some (.string tn') ∧ w'.cell? ⟨b', o' + k * 3 + 1 + 1, none⟩ = some (.slice q' ta' d') ∧ Hid (Gr wr w'))
              (first | (with_reducible assumption) | (with_reducible exact ⟨‹_›, ‹_›, ‹_›, ‹_›, ‹_›, ‹_›, ‹_›⟩) | (with_reducible refine Hb.out _ ?_; repeat (first | (with_reducible exact Hid.out (by assumption)) | (with_reducible exact Gr.refl _) | (with_reducible refine gr_dr ?_) | (with_reducible refine Gr.more ?_ _))))
              (first | (go_at_call 18; (try go_split_ands); (with_reducible refine (KK.out _ (by repeat (first | (with_reducible exact Hid.out (by assumption)) | (with_reducible exact Gr.refl _) | (with_reducible refine gr_dr ?_) | (with_reducible refine Gr.more ?_ _)))).mono ?_); rintro e w4 ⟨rfl, q0⟩; (have qg : Gr wr w4 := by (refine Gr.trans ?_ q0; repeat (first | (with_reducible exact Hid.out (by assumption)) | (with_reducible exact Gr.refl _) | (with_reducible refine gr_dr ?_) | (with_reducible refine Gr.more ?_ _)))); clear q0; obtain ⟨z1, z2, z3, z4, z5, z6, z7⟩ := Hb.out _ qg))
            all_goals
              go_wp2_with fail
              go_meet
              exact ⟨rfl, Lib.hid qg⟩
          case rest =>
            obtain ⟨rfl, G5⟩ := hcut
            cases z
            · have HF : Hid (R = false) := Lib.hid (by
                cases hR9 : R with
                | false => rfl
                | true => have := (N2.out.1 hR9).1; cases this)
              go_wp2_with fail
              go_ret
              exact ⟨ret_b HF.out.symm, hg.out.trans G5.out⟩
            · have N3 : Hid (R = true ↔ s.drop (k + 1) = r.drop (k + 1)) := Lib.hid (N2.out.trans ⟨fun hh => hh.2, fun hh => ⟨rfl, hh⟩⟩)
              go_wp2_with fail
              go_roundw
              case rel => exact ⟨k + 1, by omega, by go_num, N3, Lib.hid (hg.out.trans G5.out)⟩
              case measure => simp [intOf]; omega
      · obtain rfl : k = m := by omega
        have HA2 : Hid (R = true) := Lib.hid (hA.out.2 (L3.out k (Nat.le_refl _) (Nat.le_refl _)))
        go_wp2_with fail
        go_ret
        exact ⟨ret_b HA2.out.symm, hg.out⟩
  · have HF : Hid (R = false) := Lib.hid (by
      cases hR9 : R with
      | false => rfl
      | true =>
        have hh := HQ.out.1 hR9
        have h1 := HM.out
        have h2 := HM'.out
        rw [hh] at h1
        omega)
    have hmi : ((m : Int) == (m' : Int)) = false := by rw [beq_eq_false_iff_ne]; omega
    have hmj : ((m : Int) != (m' : Int)) = true := by rw [bne, hmi]; rfl
    go_enter Tryz.func28, Tryz.ntmps28
    go_wp2_with fail
    go_ret
    exact ⟨ret_b HF.out.symm, Gr.refl _⟩
end UniV
end Go.Proofs.YtihbnonbhelbmaaGreatDoor
/- Rules that come in are opened; what bounds the keys of their terms: the bulk of what they read as. No conditions. -/
namespace Go.Proofs.YtihbnonbhelbmaaGreatDoor
open Go Go.RowKit Go.ChangeShapes Go.Deep
namespace UnqG
open LexM TermM TermI Kit UniK UniM LigM
theorem tail_bulk {H : Type} : ∀ (l : List Tm) (es : List (DataW H)), l.length = es.length → (∀ (i : Nat) t d, l[i]? = some t → es[i]? = some d → klen t + 1 ≤ Rows.uptoBulk d) → klenL l ≤ Rows.uptoBulkAll es
  | [], [], _, _ => by simp [klenL]
  | [], _ :: _, h, _ => by simp at h
  | _ :: _, [], h, _ => by simp at h
  | t :: l, d :: es, h, hall => by
    have h0 := hall 0 t d rfl rfl
    have h1 := tail_bulk l es (by simpa using h) (fun i t d ht hd => hall (i + 1) t d (by simpa using ht) (by simpa using hd))
    simp only [klenL, Rows.uptoBulkAll]
    omega
theorem text_bulk {H : Type} (s : ByteArray) (l : List Tm) (y : DataW H) (h : klenL l + 1 ≤ Rows.uptoBulk y) : klen (.mk s l) + 1 ≤ Rows.uptoBulk (DataW.agg [.lit (.string s.data.toList), y]) := by
  have h3 : s.data.toList.length = s.size := by simp
  simp only [klen, Rows.uptoBulk, Rows.uptoBulkAll, h3]
  omega
theorem all_app {H : Type} (a b : List (DataW H)) : Rows.uptoBulkAll a + 1 ≤ Rows.uptoBulk (.slice a b) := by
  simp only [Rows.uptoBulk]
  omega
theorem all_app0 {H : Type} (a b : List (DataW H)) : Rows.uptoBulkAll a ≤ Rows.uptoBulk (.slice a b) := by
  have := all_app a b
  omega
/-- A slice value that reads as a slice of terms, with its bulk. -/
theorem slice_in2 {H : Type} {enc : TypeId × Value → H} {W : World} {base : Nat} {sp : Nat → Bool} {held : Bool} : ∀ (n : Nat) (cs : List Value) (x : DataW H × List MemPlace),
    DataW.trod enc Tryz.prog W base sp held n 25 cs = some x → ∃ (l : List Tm) (v : Value), cs = [v] ∧ SlIn (· < W.heap.size) W l v ∧ klenL l + 1 ≤ Rows.uptoBulk x.1 := by
  intro n
  induction n using Nat.strongRecOn with
  | ind n ih =>
    intro cs x h
    rcases DataW.trod_slice Tryz.underlying25 h with ⟨rfl, rfl⟩ | ⟨a, len, cap, elems, rest, m, hn, rfl, rfl, _, hle, hm, hlen, hel, _⟩
    · exact ⟨[], _, rfl, SlIn.none _ _, by simp [klenL, Rows.uptoBulk]⟩
    · have each : ∀ i, i < len → ∃ tv : Tm × Value, W.cell? (a.add (i * 2)) = some (.string tv.1.nm) ∧ W.cell? (a.add (i * 2 + 1)) = some tv.2 ∧ tv.1.nm.size ≤ maxLen ∧ SlIn (· < W.heap.size) W tv.1.args tv.2 ∧ ∀ z, (elems.map (·.1))[i]? = some z → klen tv.1 + 1 ≤ Rows.uptoBulk z := by
        intro i hi
        have he := hel i hi
        rw [List.getElem?_eq_getElem (by omega)] at he
        obtain ⟨cs', h1, h2⟩ := Option.bind_eq_some_iff.1 he
        rw [cellsT] at h1
        obtain ⟨_, hl2, hcell⟩ := World.cells?_some h1
        obtain ⟨s, v, k, y, rfl, hk, hs, hv, hx1⟩ := struct_in h2
        obtain ⟨l, v', e, hin, hbk⟩ := ih k (by omega) _ _ hv
        injection e with e _
        subst e
        have e0 := hcell 0 (by omega)
        have e1 := hcell 1 (by omega)
        rw [add_add] at e0 e1
        refine ⟨(.mk s l, v), by simpa [Tm.nm] using e0, by simpa using e1, hs, hin, fun z hz => ?_⟩
        rw [List.getElem?_map, List.getElem?_eq_getElem (by omega)] at hz
        have hz' : (elems[i]'(by omega)).1 = z := by simpa using hz
        rw [← hz', hx1]
        exact text_bulk s l y.1 hbk
      obtain ⟨tvs, htl, hall⟩ := gather each
      obtain ⟨b, off, spot⟩ := a
      have hsp : tvs ≠ [] → spot = none ∧ b < W.heap.size := by
        intro hne
        obtain ⟨tv, hg⟩ : ∃ tv, tvs[0]? = some tv := by cases tvs with
          | nil => exact absurd rfl hne
          | cons a r => exact ⟨a, rfl⟩
        have h0 := (hall 0 tv hg).1
        have h2 : spot = none := by simpa [Addr.add] using World.cell?_spot h0
        subst h2
        exact ⟨rfl, by simpa [Addr.add] using block_lt_of_cell h0⟩
      have hml : (tvs.map (·.1)).length = len := by simp [htl]
      have key : ∀ (i : Nat) (t : Tm), (tvs.map (·.1))[i]? = some t → ∃ tv : Tm × Value, tvs[i]? = some tv ∧ tv.1 = t := by
        intro i t ht
        rw [List.getElem?_map] at ht
        obtain ⟨tv, h1, h2⟩ := Option.map_eq_some_iff.1 ht
        exact ⟨tv, h1, h2⟩
      refine ⟨tvs.map (·.1), .slice (some ⟨b, off, spot⟩) len cap, rfl, ?_, ?_⟩
      · rw [← hml]
        refine .mk _ cap _ (fun i => (tvs.getD i (default, undef)).2) b off (fun hne => ?_) (fun h => by cases h) (by omega) hm (fun i t ht => ?_) (fun i t ht => ?_)
        · obtain ⟨rfl, h2⟩ := hsp (by intro e; subst e; exact hne rfl)
          exact ⟨rfl, h2⟩
        · obtain ⟨tv, hg, rfl⟩ := key i t ht
          obtain ⟨h1, h2, h3, _⟩ := hall i tv hg
          obtain ⟨rfl, _⟩ := hsp (by intro e; subst e; simp at hg)
          rw [addr_add] at h1 h2
          exact ⟨h1, by simpa [List.getD, hg, Nat.add_assoc] using h2, h3⟩
        · obtain ⟨tv, hg, rfl⟩ := key i t ht
          have := (hall i tv hg).2.2.2.1
          simpa [List.getD, hg] using this
      · refine Nat.le_trans (Nat.succ_le_succ (tail_bulk (tvs.map (·.1)) (elems.map (·.1)) (by simp [htl, hlen]) (fun i t d ht hd => ?_))) (all_app _ _)
        obtain ⟨tv, hg, rfl⟩ := key i t ht
        exact (hall i tv hg).2.2.2.2 d hd
theorem cellsB : Tryz.prog.cellsOf 4 = 1 := by kernel_rfl
theorem cellsLit : Tryz.prog.cellsOf 67 = 3 := by kernel_rfl
theorem cellsLits : Tryz.prog.cellsOf 32 = 1 := by kernel_rfl
theorem cellsRule : Tryz.prog.cellsOf 34 = 3 := by kernel_rfl
theorem underLit : ∃ f0 f1 : Field, Tryz.prog.underlying 67 = some (.struct #[f0, f1]) ∧ f0.offset = 0 ∧ f1.offset = 1 ∧ f0.type = 4 ∧ f1.type = 27 := ⟨_, _, Tryz.underlying67, rfl, rfl, rfl, rfl⟩
theorem underRule : ∃ f0 f1 : Field, Tryz.prog.underlying 34 = some (.struct #[f0, f1]) ∧ f0.offset = 0 ∧ f1.offset = 2 ∧ f0.type = 27 ∧ f1.type = 32 := ⟨_, _, Tryz.underlying34, rfl, rfl, rfl, rfl⟩
theorem three_of (l : List Value) (h : l.length = 3) : ∃ a b c, l = [a, b, c] := by
  match l, h with
  | [a, b, c], _ => exact ⟨a, b, c, rfl⟩
/-- Three cells that read as a literal. -/
theorem lit_in {H : Type} {enc : TypeId × Value → H} {W : World} {base : Nat} {sp : Nat → Bool} {held : Bool} {n : Nat} {cs : List Value} {x : DataW H × List MemPlace}
    (h : DataW.trod enc Tryz.prog W base sp held n 67 cs = some x) :
    ∃ (y : Lt) (v : Value), cs = KL.cells (y, v) ∧ KL.inn (· < W.heap.size) W (y, v) ∧ klen y.2 + 3 ≤ Rows.uptoBulk x.1 := by
  obtain ⟨f0, f1, hu, o0, o1, y0, y1⟩ := underLit
  obtain ⟨xs, k, hk, hxy, hcl, hxl, hf⟩ := DataW.trod_struct hu h
  rw [cellsLit] at hcl
  obtain ⟨v0, v1, v2, rfl⟩ := three_of cs hcl
  match xs, hxl with
  | [x0, x1], _ =>
    have g0 := hf 0 f0 rfl
    have g1 := hf 1 f1 rfl
    simp [o0, o1, y0, y1, cellsB, cellsT] at g0 g1
    obtain ⟨b, q1, q2⟩ := DataW.trod_bool Tryz.underlying4 g0
    simp at q1
    subst q1
    obtain ⟨s, v, k2, y, e, _, hs, hv, hx1⟩ := struct_in g1
    injection e with e1 e2
    injection e2 with e2 _
    subst e1 e2
    obtain ⟨l, v', e', hin, hbk⟩ := slice_in2 _ _ _ hv
    injection e' with e' _
    subst e'
    refine ⟨(b, .mk s l), _, rfl, ⟨hin, hs⟩, ?_⟩
    rw [hxy]
    have := text_bulk s l y.1 hbk
    have e5 : x1.1 = _ := hx1
    simp only [List.map_cons, List.map_nil, Rows.uptoBulk, Rows.uptoBulkAll, q2]
    rw [e5]
    omega
/-- A slice value that reads as a slice of literals. -/
theorem lits_in {H : Type} {enc : TypeId × Value → H} {W : World} {base : Nat} {sp : Nat → Bool} {held : Bool} {n : Nat} {cs : List Value} {x : DataW H × List MemPlace}
    (h : DataW.trod enc Tryz.prog W base sp held n 32 cs = some x) : ∃ (l : List Lt) (v : Value), cs = [v] ∧ LIn (· < W.heap.size) W l v ∧ (l.map fun y => klen y.2 + 3).sum ≤ Rows.uptoBulk x.1 := by
  rcases DataW.trod_slice Tryz.underlying32 h with ⟨rfl, rfl⟩ | ⟨a, len, cap, elems, rest, m, hn, rfl, rfl, _, hle, hm, hlen, hel, _⟩
  · exact ⟨[], _, rfl, LIn.nil _ _, by simp⟩
  · have each : ∀ i, i < len → ∃ tv : Lt × Value, (∀ j u, (KL.cells tv)[j]? = some u → W.cell? (a.add (i * 3 + j)) = some u) ∧ KL.inn (· < W.heap.size) W tv ∧ ∀ z, (elems.map (·.1))[i]? = some z → klen tv.1.2 + 3 ≤ Rows.uptoBulk z := by
      intro i hi
      have he := hel i hi
      rw [List.getElem?_eq_getElem (by omega)] at he
      obtain ⟨cs', h1, h2⟩ := Option.bind_eq_some_iff.1 he
      rw [cellsLit] at h1
      obtain ⟨_, hl2, hcell⟩ := World.cells?_some h1
      obtain ⟨y, v, rfl, hin, hbk⟩ := lit_in h2
      refine ⟨(y, v), fun j u hu => ?_, hin, fun z hz => ?_⟩
      · have hj := (List.getElem?_eq_some_iff.1 hu).1
        have hj3 : j < 3 := by rw [KL.len] at hj; exact hj
        have e0 := hcell j (by omega)
        rw [add_add] at e0
        rw [e0]
        exact hu
      · rw [List.getElem?_map, List.getElem?_eq_getElem (by omega)] at hz
        have hz' : (elems[i]'(by omega)).1 = z := by simpa using hz
        rw [← hz']
        exact hbk
    obtain ⟨tvs, htl, hall⟩ := gather each
    obtain ⟨b, off, spot⟩ := a
    have hsp : tvs ≠ [] → spot = none ∧ b < W.heap.size := by
      intro hne
      obtain ⟨tv, hg⟩ : ∃ tv, tvs[0]? = some tv := by cases tvs with
        | nil => exact absurd rfl hne
        | cons a r => exact ⟨a, rfl⟩
      have h0 := (hall 0 tv hg).1 0 _ rfl
      have h2 : spot = none := by simpa [Addr.add] using World.cell?_spot h0
      subst h2
      exact ⟨rfl, by simpa [Addr.add] using block_lt_of_cell h0⟩
    refine ⟨tvs.map (·.1), .slice (some ⟨b, off, spot⟩) len cap, rfl, ⟨tvs, rfl, _, cap, by rw [htl], by omega, hm, fun x hx => ?_, fun hl => ?_⟩, ?_⟩
    · obtain ⟨i, hi⟩ := List.mem_iff_getElem?.1 hx
      exact (hall i x hi).2.1
    · obtain ⟨rfl, hb⟩ := hsp (by intro e; subst e; simp at hl)
      refine ⟨b, off, rfl, hb, fun i x hx j u hu => ?_⟩
      have := (hall i x hx).1 j u hu
      rw [addr_add, ← Nat.add_assoc] at this
      exact this
    · have key : ∀ (L : List (Lt × Value)) (es : List (DataW H)), L.length = es.length → (∀ (i : Nat) t d, L[i]? = some t → es[i]? = some d → klen t.1.2 + 3 ≤ Rows.uptoBulk d) → (L.map fun y => klen y.1.2 + 3).sum ≤ Rows.uptoBulkAll es := by
        intro L
        induction L with
        | nil => intro es _ _; simp
        | cons t L ih =>
          intro es hl hh
          cases es with
          | nil => simp at hl
          | cons d es =>
            have h0 := hh 0 t d rfl rfl
            have h1 := ih es (by simpa using hl) (fun i t d ht hd => hh (i + 1) t d (by simpa using ht) (by simpa using hd))
            simp only [List.map_cons, List.sum_cons, Rows.uptoBulkAll]
            omega
      refine Nat.le_trans ?_ (all_app0 _ _)
      have := key tvs (elems.map (·.1)) (by simp [htl, hlen]) (fun i t d ht hd => (hall i t ht).2.2 d hd)
      rw [List.map_map]
      exact this
/-- Three cells that read as a rule. -/
theorem rule_in {H : Type} {enc : TypeId × Value → H} {W : World} {base : Nat} {sp : Nat → Bool} {held : Bool} {n : Nat} {cs : List Value} {x : DataW H × List MemPlace}
    (h : DataW.trod enc Tryz.prog W base sp held n 34 cs = some x) :
    ∃ (y : Rl) (v v' : Value), cs = KR.cells (y, v, v') ∧ KR.inn (· < W.heap.size) W (y, v, v') ∧ klen y.1 + (y.2.map fun y => klen y.2 + 3).sum + 1 ≤ Rows.uptoBulk x.1 := by
  obtain ⟨f0, f1, hu, o0, o1, y0, y1⟩ := underRule
  obtain ⟨xs, k, hk, hxy, hcl, hxl, hf⟩ := DataW.trod_struct hu h
  rw [cellsRule] at hcl
  obtain ⟨v0, v1, v2, rfl⟩ := three_of cs hcl
  match xs, hxl with
  | [x0, x1], _ =>
    have g0 := hf 0 f0 rfl
    have g1 := hf 1 f1 rfl
    simp [o0, o1, y0, y1, cellsLits, cellsT] at g0 g1
    obtain ⟨s, v, k2, y, e, _, hs, hv, hx1⟩ := struct_in g0
    injection e with e1 e2
    injection e2 with e2 _
    subst e1 e2
    obtain ⟨l, v', e', hin, hbk⟩ := slice_in2 _ _ _ hv
    injection e' with e' _
    subst e'
    obtain ⟨m, v', e', hin2, hbk2⟩ := lits_in g1
    injection e' with e' _
    subst e'
    refine ⟨(.mk s l, m), _, _, rfl, ⟨hin, hs, hin2⟩, ?_⟩
    rw [hxy]
    have := text_bulk s l y.1 hbk
    have e5 : x0.1 = _ := hx1
    simp only [List.map_cons, List.map_nil, Rows.uptoBulk, Rows.uptoBulkAll]
    rw [e5]
    omega
set_option maxRecDepth 100000 in
theorem open_rule2 {H : Type} {enc : TypeId × Value → H} {W : World} {b0 : Nat} {base : Nat} {sp : Nat → Bool} {held : Bool} {v : Value} {d : DataW H} {p : List MemPlace}
    (hv : Value.okWide Tryz.prog W .any b0 34 v) (h : DataW.Trod enc Tryz.prog W base sp held 34 v d p) : ∃ (r : Rl) (sa sl : Value), v = .agg #[.string r.1.nm, sa, sl] ∧ r.1.nm.size ≤ maxLen ∧ SlIn (· < W.heap.size) W r.1.args sa ∧ LIn (· < W.heap.size) W r.2 sl ∧ klen r.1 + (r.2.map fun y => klen y.2 + 3).sum + 1 ≤ Rows.uptoBulk d := by
  obtain ⟨cs, rfl, hsz⟩ := WideShapes.okWide_struct underRule.choose_spec.choose_spec.1 hv
  obtain ⟨fuel, hf⟩ := h
  obtain ⟨y, v, v', e, hin, hbk⟩ := rule_in hf
  have e : cs.toList = [.string y.1.nm, v, v'] := by simpa [Value.cells, KR] using e
  obtain rfl : cs = #[.string y.1.nm, v, v'] := Array.ext' e
  exact ⟨y, v, v', rfl, hin.2.1, hin.1, hin.2.2, hbk⟩
end UnqG
end Go.Proofs.YtihbnonbhelbmaaGreatDoor
