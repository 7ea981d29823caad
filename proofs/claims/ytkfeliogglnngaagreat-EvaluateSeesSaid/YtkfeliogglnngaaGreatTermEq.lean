/- gameplayerplain.Term and Terms: equality of terms. -/
import Derived.Test.YtkfeliogglnngaaGreatGAD
import Derived.Deep.RegionWith
import Derived.Deep.DeepCutAuto
namespace Go.Proofs.YtkfeliogglnngaaGreat
open Go Go.RowKit
namespace TermEq
open LexM TermM TermI Kit TermN TermP TermQ TermR
def EqT (x : Tm) : Prop := ∀ (R : Bool) (B : Nat) (w : World) (sv : Value) (y : Tm) (sv' : Value), (R = true ↔ x = y) → B ≤ w.heap.size → SlIn (· < B) w x.args sv → SlIn (· < B) w y.args sv' →
  Calls Tryz.prog 46 #[.agg #[.string x.nm, sv], .agg #[.string y.nm, sv']] w fun e w' => e = .returned (.bool R) ∧ Gr w w'
theorem eq_at {l r : List Tm} {k : Nat} {x y : Tm} (h : l[k]? = some x) (h' : r[k]? = some y) : l.drop k = r.drop k ↔ x = y ∧ l.drop (k + 1) = r.drop (k + 1) := by
  rw [drop_get h, drop_get h']; simp
theorem eq_end {l r : List Tm} {k : Nat} (h : l.length ≤ k) (h' : r.length ≤ k) : l.drop k = r.drop k := by
  rw [List.drop_eq_nil_of_le h, List.drop_eq_nil_of_le h']
theorem b_iff_false {R : Bool} {p : Prop} (h : R = true ↔ p) (hp : ¬p) : R = false := by cases R <;> simp_all
theorem ret_bool {a b : Bool} (h : a = b) : Ending.returned (Value.bool a) = Ending.returned (Value.bool b) := by rw [h]
set_option maxRecDepth 100000 in
set_option maxHeartbeats 3200000 in
theorem terms_of (l r : List Tm) (hC : ∀ x ∈ l, EqT x) (R : Bool) (hRR : R = true ↔ l = r) (B : Nat) (w : World) (v v' : Value) (hB : B ≤ w.heap.size) (h : SlIn (· < B) w l v) (h' : SlIn (· < B) w r v') :
    Calls Tryz.prog 18 #[v, v'] w fun e w' => e = .returned (.bool R) ∧ Gr w w' := by
  obtain ⟨p, c, rfl, _, hc, hm, hR⟩ := h.row
  obtain ⟨p', c', rfl, _, hc', hm', hR'⟩ := h'.row
  have hlf : l.length ≤ 9223372036854775807 := Nat.le_trans hc hm
  have hlf' : r.length ≤ 9223372036854775807 := Nat.le_trans hc' hm'
  have HC := Lib.hid hC
  have HR := Lib.hid hR
  have HR' := Lib.hid hR'
  have HB := Lib.hid hB
  have HQ := Lib.hid hRR
  have L1 := Lib.hid (fun k x y h h' => eq_at (l := l) (r := r) (k := k) (x := x) (y := y) h h')
  have L3 := Lib.hid (fun k h h' => eq_end (l := l) (r := r) (k := k) h h')
  have L0 : Hid (R = true ↔ l.drop 0 = r.drop 0) := Lib.hid (by simpa using hRR)
  generalize hlm : l.length = m at *
  generalize hrm : r.length = m' at *
  have HM := Lib.hid hlm
  have HM' := Lib.hid hrm
  clear hC hR hR' h h' hc hc' hm hm' hlm hrm hRR
  by_cases hmm : m = m'
  · subst hmm
    clear HQ
    go_enter Tryz.func18, Tryz.ntmps18
    go_wp2_with fail
    go_loopw [13] (fun i wr => ∃ k : Nat, k ≤ m ∧ i = .int .i64 k ∧ Hid (R = true ↔ l.drop k = r.drop k) ∧ Hid (Gr w wr)) (fun i _ => m - (intOf i).toNat)
    case atStart => exact ⟨0, Nat.zero_le _, rfl, L0, Lib.hid (Gr.refl _)⟩
    case round =>
      obtain ⟨k, hk, rfl, hA, hg⟩ := hrel
      by_cases hlt : k < m
      · obtain ⟨t, b, o, q, d, ht, rfl, hb, c1, c2, hs, hts⟩ := (HR.out.gr hg.out HB.out) k (by rw [HM.out]; exact hlt)
        obtain ⟨t', b', o', q', d', ht', rfl, hb', c1', c2', hs', hts'⟩ := (HR'.out.gr hg.out HB.out) k (by rw [HM'.out]; exact hlt)
        have N1 := Lib.hid (hA.out.trans (L1.out k t t' ht ht'))
        obtain ⟨z, hz⟩ : ∃ z : Bool, Hid (z = true ↔ t = t') := ⟨decide (cmpT t t' = 0), Lib.hid (by rw [decide_eq_true_iff]; exact cmp_zero t t')⟩
        have KK := Lib.hid (fun w2 (g : Gr wr w2) => HC.out t (List.mem_of_getElem? ht) z B w2 _ t' _ hz.out (Nat.le_trans HB.out (hg.out.trans g).size) (hs.gr g (Nat.le_trans HB.out hg.out.size)) (hs'.gr g (Nat.le_trans HB.out hg.out.size)))
        clear hs hs' hts hts' ht ht' hA
        generalize t.nm = tn at *
        generalize t'.nm = tn' at *
        generalize t.args.length = ta at *
        generalize t'.args.length = ta' at *
        cases z
        · have HF : Hid (R = false) := Lib.hid (b_iff_false N1.out (fun hh => by have := hz.out.2 hh.1; simp at this))
          clear N1 hz
          go_upto_region 6 with fail
          go_cut [25] (fun s25 wx => s25 = .bool true ∧ Hid (Gr wr wx))
          case first =>
            go_region_with (first | (go_at_call 46; (with_reducible refine (KK.out _ (by first | exact Gr.drew _ | exact Gr.refl _)).mono ?_); rintro e w3 ⟨rfl, g3⟩; have G3 := Lib.hid (Gr.trans (by first | exact Gr.drew _ | exact Gr.refl _) g3 : Gr wr w3); clear g3))
            all_goals
              go_wp2_with fail
              go_meet
              exact ⟨rfl, G3⟩
          case rest =>
            obtain ⟨rfl, G3⟩ := hcut
            go_wp2_with fail
            go_ret
            exact ⟨ret_bool HF.out.symm, hg.out.trans G3.out⟩
        · have HF : Hid (R = true ↔ l.drop (k + 1) = r.drop (k + 1)) := Lib.hid (N1.out.trans ⟨fun hh => hh.2, fun hh => ⟨hz.out.1 rfl, hh⟩⟩)
          clear N1 hz
          go_upto_region 6 with fail
          go_cut [25] (fun s25 wx => s25 = .bool false ∧ Hid (Gr wr wx))
          case first =>
            go_region_with (first | (go_at_call 46; (with_reducible refine (KK.out _ (by first | exact Gr.drew _ | exact Gr.refl _)).mono ?_); rintro e w3 ⟨rfl, g3⟩; have G3 := Lib.hid (Gr.trans (by first | exact Gr.drew _ | exact Gr.refl _) g3 : Gr wr w3); clear g3))
            all_goals
              go_wp2_with fail
              go_meet
              exact ⟨rfl, G3⟩
          case rest =>
            obtain ⟨rfl, G3⟩ := hcut
            go_wp2_with fail
            go_roundw
            case rel => exact ⟨k + 1, by omega, by go_num, HF, Lib.hid (hg.out.trans G3.out)⟩
            case measure => simp [intOf]; omega
      · obtain rfl : k = m := by omega
        have HA2 : Hid (R = true) := Lib.hid (hA.out.2 (L3.out k (Nat.le_refl _) (Nat.le_refl _)))
        go_wp2_with fail
        go_ret
        exact ⟨ret_bool HA2.out.symm, hg.out⟩
  · have HF : Hid (R = false) := Lib.hid (b_iff_false HQ.out (fun hh => hmm (by have h1 := HM.out; have h2 := HM'.out; rw [hh] at h1; omega)))
    clear L0 HQ
    go_enter Tryz.func18, Tryz.ntmps18
    go_wp2_with fail
    go_ret
    exact ⟨ret_bool HF.out.symm, Gr.refl _⟩
set_option maxRecDepth 100000 in
set_option maxHeartbeats 3200000 in
theorem term_any (x : Tm) : EqT x := by
  induction x using Tm.ind with
  | h n l ih =>
    rintro R B w sv ⟨m, r⟩ sv' hR hB h h'
    dsimp only [Tm.args, Tm.nm] at h h' ⊢
    obtain ⟨p, c, rfl⟩ := h.form
    obtain ⟨p', c', rfl⟩ := h'.form
    have KK := Lib.hid (fun (hnm : n = m) w2 (g : Gr w w2) => terms_of l r ih R (by rw [hR, hnm]; simp) B w2 _ _ (Nat.le_trans hB g.size) (h.gr g hB) (h'.gr g hB))
    have HR := Lib.hid hR
    generalize l.length = a at *
    generalize r.length = b at *
    clear h h' ih hR
    by_cases hnm : n = m
    · have K2 := Lib.hid (KK.out hnm)
      clear KK HR
      subst hnm
      go_enter Tryz.func46, Tryz.ntmps46
      go_wp2_with fail
      refine (K2.out _ (by first | exact (Gr.alloc _ _).more _ | exact ((Gr.alloc _ _).more _).trans (Gr.drew _))).mono ?_
      rintro e w' ⟨rfl, g⟩
      have hg := Lib.hid (((Gr.alloc _ _).more _).trans g)
      clear g
      go_wp2_with fail
      go_ret
      exact ⟨rfl, hg.out⟩
    · have hb : (n.toList == m.toList) = false := by rw [beq_eq_false_iff_ne, Ne, ByteArray.toList_eq, ByteArray.toList_eq]; exact fun hh => hnm (bytes_inj hh)
      have HF : Hid (R = false) := Lib.hid (b_iff_false HR.out (fun hh => hnm (by injection hh)))
      clear KK HR
      go_enter Tryz.func46, Tryz.ntmps46
      go_wp2_with fail
      go_ret
      exact ⟨ret_bool HF.out.symm, (Gr.alloc _ _).more _⟩
end TermEq
end Go.Proofs.YtkfeliogglnngaaGreat
