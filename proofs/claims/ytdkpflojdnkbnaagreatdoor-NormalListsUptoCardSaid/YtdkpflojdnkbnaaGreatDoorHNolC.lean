/- gameplayerplain.Rules: equality of lists of rules. No conditions. -/
import Derived.Test.YtdkpflojdnkbnaaGreatDoorHAJ
import Derived.Test.YtdkpflojdnkbnaaGreatDoorHBE
namespace Go.Proofs.YtdkpflojdnkbnaaGreatDoor
open Go Go.RowKit
namespace NolC
open Kit LexM TermM TermI TermU UniM UniK UnpP TermEq
/-- The rules of a list, three cells each. -/
def RowR (B : Nat) (w : World) (l : List Rl) (p : Option Addr) : Prop := ∀ k, k < l.length → ∃ t b o q d u e, l[k]? = some t ∧ p = some ⟨b, o, none⟩ ∧ b < B ∧ w.cell? ⟨b, o + k * 3, none⟩ = some (.string t.1.nm) ∧ w.cell? ⟨b, o + k * 3 + 1, none⟩ = some (.slice q t.1.args.length d) ∧
  w.cell? ⟨b, o + k * 3 + 1 + 1, none⟩ = some (.slice u t.2.length e) ∧ SlIn (· < B) w t.1.args (.slice q t.1.args.length d) ∧ LIn (· < B) w t.2 (.slice u t.2.length e) ∧ t.1.nm.size ≤ maxLen
theorem RIn.row {B : Nat} {w : World} {l : List Rl} {v : Value} (h : RIn (· < B) w l v) : ∃ p c, v = .slice p l.length c ∧ l.length ≤ c ∧ c ≤ maxLen ∧ RowR B w l p := by
  obtain ⟨L, rfl, p, c, e, h1, h2, h3, h4⟩ := h
  refine ⟨p, c, by rw [e]; simp, by simpa using h1, h2, fun k hk => ?_⟩
  have hk' : k < L.length := by simpa using hk
  obtain ⟨g, o, e1, e2, e3⟩ := h4 (by omega)
  obtain ⟨x, hx⟩ : ∃ x, L[k]? = some x := ⟨L[k], by simp [hk']⟩
  obtain ⟨s1, s2, s3⟩ := h3 x (List.mem_of_getElem? hx)
  obtain ⟨q, d, eq⟩ := s1.form
  obtain ⟨u, e', eu⟩ := s3.form
  refine ⟨x.1, g, o, q, d, u, e', by simp [hx], e1, e2, e3 k x hx 0 _ rfl, ?_, ?_, by rw [← eq]; exact s1, by rw [← eu]; exact s3, s2⟩
  · rw [← eq]; exact e3 k x hx 1 _ rfl
  · rw [← eu]; exact e3 k x hx 2 _ rfl
theorem RowR.gr {B : Nat} {w w' : World} {l : List Rl} {p : Option Addr} (h : RowR B w l p) (g : Gr w w') (hB : B ≤ w.heap.size) : RowR B w' l p := fun k hk => by
  obtain ⟨t, b, o, q, d, u, e, h1, h2, h3, h4, h5, h6, h7, h8, h9⟩ := h k hk
  exact ⟨t, b, o, q, d, u, e, h1, h2, h3, (g.cell (Nat.lt_of_lt_of_le h3 hB)).trans h4, (g.cell (Nat.lt_of_lt_of_le h3 hB)).trans h5, (g.cell (Nat.lt_of_lt_of_le h3 hB)).trans h6, h7.gr g hB, h8.gr g hB, h9⟩
theorem eq_atR {l r : List Rl} {k : Nat} {x y : Rl} (h : l[k]? = some x) (h' : r[k]? = some y) : l.drop k = r.drop k ↔ (x.1 = y.1 ∧ x.2 = y.2) ∧ l.drop (k + 1) = r.drop (k + 1) := by
  rw [UnpP.drop_get h, UnpP.drop_get h']; simp [Prod.ext_iff]
theorem eq_endR {l r : List Rl} {k : Nat} (h : l.length ≤ k) (h' : r.length ≤ k) : l.drop k = r.drop k := by
  rw [List.drop_eq_nil_of_le h, List.drop_eq_nil_of_le h']
set_option maxRecDepth 100000 in
set_option maxHeartbeats 3200000 in
theorem rules_of (l r : List Rl) (R : Bool) (hRR : R = true ↔ l = r) (B : Nat) (w : World) (v v' : Value) (hB : B ≤ w.heap.size) (h : RIn (· < B) w l v) (h' : RIn (· < B) w r v') :
    Calls Tryz.prog 24 #[v, v'] w fun e w' => e = .returned (.bool R) ∧ Gr w w' := by
  obtain ⟨p, c, rfl, hc, hm, hR⟩ := RIn.row h
  obtain ⟨p', c', rfl, hc', hm', hR'⟩ := RIn.row h'
  have hlf : l.length ≤ 9223372036854775807 := Nat.le_trans hc hm
  have hlf' : r.length ≤ 9223372036854775807 := Nat.le_trans hc' hm'
  have HR := Lib.hid hR
  have HR' := Lib.hid hR'
  have HB := Lib.hid hB
  have HQ := Lib.hid hRR
  have L1 := Lib.hid (fun k x y h h' => eq_atR (l := l) (r := r) (k := k) (x := x) (y := y) h h')
  have L3 := Lib.hid (fun k h h' => eq_endR (l := l) (r := r) (k := k) h h')
  have L0 : Hid (R = true ↔ l.drop 0 = r.drop 0) := Lib.hid (by simpa using hRR)
  generalize hlm : l.length = m at *
  generalize hrm : r.length = m' at *
  have HM := Lib.hid hlm
  have HM' := Lib.hid hrm
  clear hR hR' h h' hc hc' hm hm' hlm hrm hRR
  by_cases hmm : m = m'
  · subst hmm
    clear HQ
    go_enter Tryz.func24, Tryz.ntmps24
    go_wp2_with fail
    go_loopw [13] (fun i wr => ∃ k : Nat, k ≤ m ∧ i = .int .i64 k ∧ Hid (R = true ↔ l.drop k = r.drop k) ∧ Hid (Gr w wr)) (fun i _ => m - (intOf i).toNat)
    case atStart => exact ⟨0, Nat.zero_le _, rfl, L0, Lib.hid (Gr.refl _)⟩
    case round =>
      obtain ⟨k, hk, rfl, hA, hg⟩ := hrel
      by_cases hlt : k < m
      · obtain ⟨t, b, o, q, d, u, e, ht, rfl, hb, c1, c2, c3, hs, hl, hts⟩ := (HR.out.gr hg.out HB.out) k (by rw [HM.out]; exact hlt)
        obtain ⟨t', b', o', q', d', u', e', ht', rfl, hb', c1', c2', c3', hs', hl', hts'⟩ := (HR'.out.gr hg.out HB.out) k (by rw [HM'.out]; exact hlt)
        have N1 := Lib.hid (hA.out.trans (L1.out k t t' ht ht'))
        obtain ⟨z, hz⟩ : ∃ z : Bool, Hid (z = true ↔ t.1 = t'.1 ∧ t.2 = t'.2) := by
          rcases Classical.em (t.1 = t'.1 ∧ t.2 = t'.2) with hh | hh
          · exact ⟨true, Lib.hid (by simp [hh])⟩
          · exact ⟨false, Lib.hid (by simp only [Bool.false_eq_true, false_iff]; exact hh)⟩
        have KK := Lib.hid (fun w2 (g : Gr wr w2) => rule_eq t.1 t'.1 t.2 t'.2 z hz.out B w2 _ _ _ _ (Nat.le_trans HB.out (hg.out.trans g).size) (hs.gr g (Nat.le_trans HB.out hg.out.size)) (hs'.gr g (Nat.le_trans HB.out hg.out.size)) (hl.gr g (Nat.le_trans HB.out hg.out.size)) (hl'.gr g (Nat.le_trans HB.out hg.out.size)))
        clear hs hs' hl hl' hts hts' ht ht' hA
        generalize t.1.nm = tn at *
        generalize t'.1.nm = tn' at *
        generalize t.1.args.length = ta at *
        generalize t'.1.args.length = ta' at *
        generalize t.2.length = tb at *
        generalize t'.2.length = tb' at *
        cases z
        · have HF : Hid (R = false) := Lib.hid (b_iff_false N1.out (fun hh => by have := hz.out.2 hh.1; simp at this))
          clear N1 hz
          go_upto_region 6 with fail
          go_cut [25] (fun s25 wx => s25 = .bool true ∧ Hid (Gr wr wx))
          case first =>
            go_region_with (first | (go_at_call 18; (with_reducible refine (KK.out _ (by first | exact Gr.drew _ | exact Gr.refl _)).mono ?_); rintro e w3 ⟨rfl, g3⟩; have G3 := Lib.hid (Gr.trans (by first | exact Gr.drew _ | exact Gr.refl _) g3 : Gr wr w3); clear g3))
            all_goals
              go_wp2_with fail
              go_meet
              exact ⟨rfl, G3⟩
          case rest =>
            obtain ⟨rfl, G3⟩ := hcut
            go_wp2_with fail
            go_ret
            exact ⟨TermEq.ret_bool HF.out.symm, hg.out.trans G3.out⟩
        · have HF : Hid (R = true ↔ l.drop (k + 1) = r.drop (k + 1)) := Lib.hid (N1.out.trans ⟨fun hh => hh.2, fun hh => ⟨hz.out.1 rfl, hh⟩⟩)
          clear N1 hz
          go_upto_region 6 with fail
          go_cut [25] (fun s25 wx => s25 = .bool false ∧ Hid (Gr wr wx))
          case first =>
            go_region_with (first | (go_at_call 18; (with_reducible refine (KK.out _ (by first | exact Gr.drew _ | exact Gr.refl _)).mono ?_); rintro e w3 ⟨rfl, g3⟩; have G3 := Lib.hid (Gr.trans (by first | exact Gr.drew _ | exact Gr.refl _) g3 : Gr wr w3); clear g3))
            all_goals
              go_wp2_with fail
              go_meet
              exact ⟨rfl, G3⟩
          case rest =>
            obtain ⟨rfl, G3⟩ := hcut
            go_wp2_with fail
            go_roundw
            case rel => exact ⟨k + 1, by omega, by go_num, HF, Lib.hid (hg.out.trans G3.out)⟩
            case measure => simp [intOf]; omega
      · obtain rfl : k = m := by omega
        have HA2 : Hid (R = true) := Lib.hid (hA.out.2 (L3.out k (Nat.le_refl _) (Nat.le_refl _)))
        go_wp2_with fail
        go_ret
        exact ⟨TermEq.ret_bool HA2.out.symm, hg.out⟩
  · have HF : Hid (R = false) := Lib.hid (b_iff_false HQ.out (fun hh => hmm (by have h1 := HM.out; have h2 := HM'.out; rw [hh] at h1; omega)))
    clear L0 HQ
    go_enter Tryz.func24, Tryz.ntmps24
    go_wp2_with fail
    go_ret
    exact ⟨TermEq.ret_bool HF.out.symm, Gr.refl _⟩
end NolC
end Go.Proofs.YtdkpflojdnkbnaaGreatDoor
