/- The code's Compare and CompareList: they answer by the order of terms. -/
import Derived.Test.YtihbnonbhelbmaaGreatDoorTermP
namespace Go.Proofs.YtihbnonbhelbmaaGreatDoor
open Go Go.RowKit
namespace TermQ
open LexM TermM TermI Kit TermN TermA TermB TermC TermD TermV TermO TermP
/-- What a function that compares terms answers, at a first term. -/
def CmpT (f : FuncId) (x : Tm) : Prop := ∀ (B : Nat) (w : World) (sv : Value) (y : Tm) (sv' : Value), B ≤ w.heap.size → x.nm.size ≤ maxLen → y.nm.size ≤ maxLen → SlIn (· < B) w x.args sv → SlIn (· < B) w y.args sv' →
  Calls Tryz.prog f #[.agg #[.string x.nm, sv], .agg #[.string y.nm, sv']] w fun e w' => e = .returned (.int .i64 (cmpT x y)) ∧ Gr w w'
theorem drop_get {α : Type} {l : List α} {k : Nat} {x : α} (h : l[k]? = some x) : l.drop k = x :: l.drop (k + 1) := by
  obtain ⟨hk, rfl⟩ := List.getElem?_eq_some_iff.1 h
  exact List.drop_eq_getElem_cons hk
theorem cmpL_at {l r : List Tm} {k : Nat} {x y : Tm} (h : l[k]? = some x) (h' : r[k]? = some y) : cmpL (l.drop k) (r.drop k) = thn (cmpT x y) (cmpL (l.drop (k + 1)) (r.drop (k + 1))) := by
  rw [drop_get h, drop_get h']; simp only [cmpL]
theorem cmpL_short {l r : List Tm} {k : Nat} (h : k < l.length) (h' : r.length ≤ k) : cmpL (l.drop k) (r.drop k) = 1 := by
  rw [List.drop_eq_nil_of_le h', List.drop_eq_getElem_cons h]; simp only [cmpL]
theorem cmpL_end {l r : List Tm} {k : Nat} (h : l.length ≤ k) (h' : k ≤ r.length) : cmpL (l.drop k) (r.drop k) = if k < r.length then -1 else 0 := by
  rw [List.drop_eq_nil_of_le h]
  split
  · rename_i hk; rw [List.drop_eq_getElem_cons hk]; simp only [cmpL]
  · rw [List.drop_eq_nil_of_le (by omega)]; simp only [cmpL]
set_option maxRecDepth 100000 in
set_option maxHeartbeats 3200000 in
theorem func_any (l r : List Tm) (hC : ∀ x ∈ l, CmpT 60 x) (B : Nat) (w : World) (v v' : Value) (hB : B ≤ w.heap.size) (h : SlIn (· < B) w l v) (h' : SlIn (· < B) w r v') :
    Calls Tryz.prog 129 #[v, v', .func (.func 60) #[] #[]] w fun e w' => e = .returned (.int .i64 (cmpL l r)) ∧ Gr w w' := by
  obtain ⟨p, c, rfl, _, hc, hm, hR⟩ := h.row
  obtain ⟨p', c', rfl, _, hc', hm', hR'⟩ := h'.row
  have hlf : l.length ≤ 9223372036854775807 := Nat.le_trans hc hm
  have hlf' : r.length ≤ 9223372036854775807 := Nat.le_trans hc' hm'
  have HC := Lib.hid hC
  have HR := Lib.hid hR
  have HR' := Lib.hid hR'
  have HB := Lib.hid hB
  have L1 : Hid (∀ k x y, l[k]? = some x → r[k]? = some y → cmpL (l.drop k) (r.drop k) = thn (cmpT x y) (cmpL (l.drop (k + 1)) (r.drop (k + 1)))) := Lib.hid (fun k x y h h' => cmpL_at h h')
  have L2 : Hid (∀ k, k < l.length → r.length ≤ k → cmpL (l.drop k) (r.drop k) = 1) := Lib.hid (fun k h h' => cmpL_short h h')
  have L3 : Hid (∀ k, l.length ≤ k → k ≤ r.length → cmpL (l.drop k) (r.drop k) = if k < r.length then -1 else 0) := Lib.hid (fun k h h' => cmpL_end h h')
  have L0 : Hid (cmpL l r = cmpL (l.drop 0) (r.drop 0)) := rfl
  generalize cmpL l r = R at *
  generalize hlm : l.length = m at *
  generalize hrm : r.length = m' at *
  have HM := Lib.hid hlm
  have HM' := Lib.hid hrm
  clear hC hR hR' h h' hc hc' hm hm' hlm hrm
  go_enter Tryz.func129, Tryz.ntmps129
  go_wp2_with fail
  go_loopw [13] (fun i wr => ∃ k : Nat, k ≤ m ∧ k ≤ m' ∧ i = .int .i64 k ∧ Hid (R = cmpL (l.drop k) (r.drop k)) ∧ Hid (Gr w wr)) (fun i _ => m - (intOf i).toNat)
  case atStart => exact ⟨0, Nat.zero_le _, Nat.zero_le _, rfl, L0, Lib.hid (Gr.refl _)⟩
  case round =>
    obtain ⟨k, hk, hk', rfl, hA, hg⟩ := hrel
    by_cases hlt : k < m
    · obtain ⟨t, b, o, q, d, ht, rfl, hb, c1, c2, hs, hts⟩ := (HR.out.gr hg.out HB.out) k (by rw [HM.out]; exact hlt)
      have HS := Lib.hid hs
      have HTS := Lib.hid hts
      have HT := Lib.hid ht
      clear hs hts ht
      by_cases hlt' : k < m'
      · obtain ⟨t', b', o', q', d', ht', rfl, hb', c1', c2', hs', hts'⟩ := (HR'.out.gr hg.out HB.out) k (by rw [HM'.out]; exact hlt')
        have HS' := Lib.hid hs'
        have HTS' := Lib.hid hts'
        have N1 := Lib.hid (L1.out k t t' HT.out ht')
        have hbl' : b' < wr.heap.size := Nat.lt_of_lt_of_le hb' (Nat.le_trans HB.out hg.out.size)
        clear hs' hts' ht'
        go_wp2_with fail
        refine (HC.out t (List.mem_of_getElem? HT.out) B _ _ t' _ (Nat.le_trans HB.out (((hg.out.more _).more _)).size) HTS.out HTS'.out (HS.out.gr ((Gr.alloc _ _).more _) (Nat.le_trans HB.out hg.out.size)) (HS'.out.gr ((Gr.alloc _ _).more _) (Nat.le_trans HB.out hg.out.size))).mono ?_
        rintro e w' ⟨rfl, g2⟩
        have hg2 := Lib.hid (((hg.out.more _).more _).trans g2)
        clear g2
        generalize cmpT t t' = z at *
        by_cases hz : z = 0
        · subst hz
          have HA2 : Hid (R = cmpL (l.drop (k + 1)) (r.drop (k + 1))) := Lib.hid (by rw [hA.out, N1.out]; simp [thn])
          go_wp2_with fail
          go_roundw
          case rel => exact ⟨k + 1, by omega, by omega, by go_num, HA2, hg2⟩
          case measure => simp [intOf]; omega
        · have hz1 : (z != 0) = true := by simpa using hz
          have HA2 : Hid (R = z) := Lib.hid (by rw [hA.out, N1.out]; simp [thn, hz])
          clear hz
          go_wp2_with fail
          go_ret
          exact ⟨ret_int HA2.out.symm, hg2.out⟩
      · obtain rfl : k = m' := by omega
        have HA2 : Hid (R = 1) := Lib.hid (by rw [hA.out]; exact L2.out k hlt (Nat.le_refl _))
        go_wp2_with fail
        go_ret
        exact ⟨ret_int HA2.out.symm, hg.out.more _⟩
    · obtain rfl : k = m := by omega
      have HA2 := hA.out.trans (L3.out k (Nat.le_refl _) hk')
      by_cases h2 : k < m'
      · rw [if_pos h2] at HA2
        have HA3 := Lib.hid HA2
        clear HA2
        go_wp2_with fail
        go_ret
        exact ⟨ret_int HA3.out.symm, hg.out⟩
      · rw [if_neg h2] at HA2
        have HA3 := Lib.hid HA2
        clear HA2
        go_wp2_with fail
        go_ret
        exact ⟨ret_int HA3.out.symm, hg.out⟩
theorem list_of (l r : List Tm) (hC : ∀ x ∈ l, CmpT 60 x) (B : Nat) (w : World) (v v' : Value) (hB : B ≤ w.heap.size) (h : SlIn (· < B) w l v) (h' : SlIn (· < B) w r v') :
    Calls Tryz.prog 95 #[v, v'] w fun e w' => e = .returned (.int .i64 (cmpL l r)) ∧ Gr w w' := by
  have K := Lib.hid (func_any l r hC B w v v' hB h h')
  generalize cmpL l r = R at *
  clear hC h h'
  go_enter Tryz.func95, Tryz.ntmps95
  go_wp2_with fail
  refine K.out.mono ?_
  rintro e w' ⟨rfl, g⟩
  have hg := Lib.hid g
  clear g
  go_wp2_with fail
  go_ret
  exact ⟨rfl, hg.out⟩
end TermQ
end Go.Proofs.YtihbnonbhelbmaaGreatDoor
