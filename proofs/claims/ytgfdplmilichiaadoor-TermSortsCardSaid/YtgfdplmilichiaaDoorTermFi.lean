/- The reference's Find: the first place that compares as 0, else -1. -/
import Derived.Test.YtgfdplmilichiaaDoorTermCr
namespace Go.Proofs.YtgfdplmilichiaaDoor
open Go Go.RowKit
namespace TermFi
open LexM TermM TermI Kit TermN TermP TermQ TermR TermCr
set_option maxRecDepth 100000 in
set_option maxHeartbeats 3200000 in
theorem rfind_any (l : List Tm) (t : Tm) (R : Int) (hR1 : ∀ (k : Nat) (x : Tm), l[k]? = some x → (∀ (j : Nat) (y : Tm), j < k → l[j]? = some y → cmpT y t ≠ 0) → cmpT x t = 0 → R = (k : Int)) (hR2 : (∀ (j : Nat) (y : Tm), j < l.length → l[j]? = some y → cmpT y t ≠ 0) → R = -1)
    (B : Nat) (w : World) (v tv : Value) (hB : B ≤ w.heap.size) (hn : t.nm.size ≤ maxLen) (h : SlIn (· < B) w l v) (h' : SlIn (· < B) w t.args tv) :
    Calls Tryd.prog 43 #[v, .agg #[.string t.nm, tv]] w fun e w' => e = .returned (.int .i64 R) ∧ Gr w w' := by
  obtain ⟨p, c, rfl, _, hc, hm, hR⟩ := h.row
  obtain ⟨p', c', rfl⟩ := h'.form
  have hlf : l.length ≤ 9223372036854775807 := Nat.le_trans hc hm
  have HR := Lib.hid hR
  have HB := Lib.hid hB
  have HT := Lib.hid h'
  have HN := Lib.hid hn
  have Q1 := Lib.hid hR1
  have Q2 := Lib.hid hR2
  generalize hlm : l.length = m at *
  have HM := Lib.hid hlm
  obtain ⟨W1, hW1⟩ : ∃ W1, W1 = w.alloc (.cells #[.string t.nm, .slice p' t.args.length c'] 28) := ⟨_, rfl⟩
  have G0 : Hid (Gr w W1) := Lib.hid (by rw [hW1]; exact Gr.alloc w _)
  have H1 : Hid (Has W1 w.heap.size #[.string t.nm, .slice p' t.args.length c']) := Lib.hid (by rw [hW1]; exact Has.new _ _ _)
  clear hR h h' hc hm hlm hR1 hR2 hB hn
  go_enter Tryd.func43, Tryd.ntmps43
  go_upto_region 1 with fail
  rw [← hW1]
  clear hW1
  go_wp2_with fail
  go_loopw [8] (fun i wr => ∃ k : Nat, k ≤ m ∧ i = .int .i64 k ∧ Hid (∀ j y, j < k → l[j]? = some y → cmpT y t ≠ 0) ∧ Hid (Gr W1 wr)) (fun i _ => m - (intOf i).toNat)
  case atStart => exact ⟨0, Nat.zero_le _, rfl, Lib.hid (fun j y hj => absurd hj (Nat.not_lt_zero _)), Lib.hid (Gr.refl _)⟩
  case round =>
    obtain ⟨k, hk, rfl, hA, hg⟩ := hrel
    have DW := Lib.hid (G0.out.trans hg.out)
    by_cases hlt : k < m
    · obtain ⟨x, b, o, q, d, hx, rfl, hb, c1, c2, hs, hts⟩ := (HR.out.gr DW.out HB.out) k (by rw [HM.out]; exact hlt)
      obtain ⟨x1, x2, _⟩ := (hg.out.has H1.out).two
      have KK := Lib.hid (fun w2 (g : Gr wr w2) => rcmp_any x B w2 _ t _ (Nat.le_trans HB.out (DW.out.trans g).size) hts HN.out (hs.gr g (Nat.le_trans HB.out DW.out.size)) (HT.out.gr (DW.out.trans g) HB.out))
      have F1 := Lib.hid (Q1.out k x hx hA.out)
      have F2 : Hid (cmpT x t ≠ 0 → ∀ j y, j < k + 1 → l[j]? = some y → cmpT y t ≠ 0) := Lib.hid (fun hne j y hj hy => by
        by_cases e : j = k
        · subst e; rw [hx] at hy; injection hy with hy; subst hy; exact hne
        · exact hA.out j y (by omega) hy)
      clear hs hts hx
      generalize x.nm = tn at *
      generalize x.args.length = ta at *
      generalize cmpT x t = z at *
      generalize t.nm = tt at *
      generalize t.args.length = tta at *
      obtain ⟨zb, hzb⟩ : ∃ zb, (z == 0) = zb := ⟨_, rfl⟩
      go_upto_region 4 with fail
      go_cut [17] (fun s17 wx => s17 = .bool zb ∧ Hid (Gr wr wx))
      case first =>
        clear HR HB HT HN Q1 Q2 HM H1 G0 hA DW F1 F2
        go_region_with (first | (go_at_call 37; (with_reducible refine (KK.out _ (by first | exact Gr.drew _ | exact Gr.refl _)).mono ?_); rintro e w3 ⟨rfl, g3⟩; have G3 := Lib.hid (Gr.trans (by first | exact Gr.drew _ | exact Gr.refl _) g3 : Gr wr w3); clear g3))
        all_goals
          go_wp2_with fail
          go_meet
          exact ⟨rfl, G3⟩
      case rest =>
        obtain ⟨rfl, G3⟩ := hcut
        cases zb
        · have HA2 := Lib.hid (F2.out (by simpa using hzb))
          clear hzb F1 F2
          go_wp2_with fail
          go_roundw
          case rel => exact ⟨k + 1, by omega, by go_num, HA2, Lib.hid (hg.out.trans G3.out)⟩
          case measure => simp [intOf]; omega
        · have HF := Lib.hid (F1.out (by simpa using hzb))
          clear hzb F1 F2
          go_wp2_with fail
          go_ret
          exact ⟨ret_int HF.out.symm, DW.out.trans G3.out⟩
    · obtain rfl : k = m := by omega
      have HF := Lib.hid (Q2.out hA.out)
      go_wp2_with fail
      go_ret
      exact ⟨ret_int HF.out.symm, DW.out⟩
end TermFi
end Go.Proofs.YtgfdplmilichiaaDoor
