/- TermCompares' walk. -/
import Derived.Test.YteabkoibinbcdaaDoorTermW
import Derived.Test.YteabkoibinbcdaaDoorTermCr
import Derived.Deep.RegionHeld3
import Derived.Deep.DeepCutAuto
namespace Go.Proofs.YteabkoibinbcdaaDoor
open Go Go.RowKit
namespace TermL4
open LexM TermM TermI Kit TermN TermS TermP TermQ TermR TermL TermE TermF TermT TermH TermW TermCr
set_option maxRecDepth 100000 in
set_option maxHeartbeats 6400000 in
theorem compares (l r : List Tm) (w : World) (v v' : Value) (hw : Wd w) (h : SlIn (· < w.heap.size) w l v) (h' : SlIn (· < w.heap.size) w r v') :
    Calls Tryd.prog 6 #[v, v'] w fun e w' => e = .returned (.bool true) ∧ Below w.heap.size w w' := by
  have CA := Lib.hid (fun w' (q : Gr w w') => awake_any w' (hw.below q.1 hw.1))
  have F1 := Lib.hid (fun w' (q : Gr w w') => few_any l w.heap.size w' v q.size (h.gr q (Nat.le_refl _)))
  have F2 := Lib.hid (fun w' (q : Gr w w') => few_any r w.heap.size w' v' q.size (h'.gr q (Nat.le_refl _)))
  have C1 := Lib.hid (fun w' (q : Gr w w') => cmplist_any l r w.heap.size w' v v' q.size (h.gr q (Nat.le_refl _)) (h'.gr q (Nat.le_refl _)))
  have C2 := Lib.hid (fun w' (q : Gr w w') => rcmplist_any l r w.heap.size w' v v' q.size (h.gr q (Nat.le_refl _)) (h'.gr q (Nat.le_refl _)))
  obtain ⟨p, c, rfl, _, hc, hm, hR⟩ := h.row
  obtain ⟨p', c', rfl, _, hc', hm', hR'⟩ := h'.row
  have hlf : l.length ≤ 9223372036854775807 := Nat.le_trans hc hm
  have hlf' : r.length ≤ 9223372036854775807 := Nat.le_trans hc' hm'
  have HR := Lib.hid hR
  have HR' := Lib.hid hR'
  generalize (decide (l.length ≤ 40) && l.all fun t => decide (partsT 40 40 t ≤ 40)) = Sa at *
  generalize (decide (r.length ≤ 40) && r.all fun t => decide (partsT 40 40 t ≤ 40)) = Sb at *
  generalize cmpL l r = R at *
  generalize hlm : l.length = m at *
  generalize hrm : r.length = m' at *
  have HM := Lib.hid hlm
  have HM' := Lib.hid hrm
  clear hR hR' h h' hc hc' hm hm' hlm hrm hw
  go_enter Tryd.func6, Tryd.ntmps6
  go_wp2_with fail
  refine (F1.out _ (Gr.refl _)).mono ?_
  rintro e w1 ⟨rfl, k⟩
  have G1 := Lib.hid k
  clear k
  cases Sa
  · go_wp2_with fail
    refine (CA.out _ G1.out).mono ?_
    rintro e w4 ⟨rfl, k⟩
    have D := Lib.hid (next0 G1.out.1 k)
    clear k
    go_wp2_with fail
    go_ret
    exact ⟨rfl, D.out⟩
  go_wp2_with fail
  refine (F2.out _ G1.out).mono ?_
  rintro e w2 ⟨rfl, k⟩
  have G2 := Lib.hid (G1.out.trans k)
  clear k
  cases Sb
  · go_wp2_with fail
    refine (CA.out _ G2.out).mono ?_
    rintro e w4 ⟨rfl, k⟩
    have D := Lib.hid (next0 G2.out.1 k)
    clear k
    go_wp2_with fail
    go_ret
    exact ⟨rfl, D.out⟩
  go_wp2_with fail
  refine (C1.out _ G2.out).mono ?_
  rintro e w3 ⟨rfl, k⟩
  have G3 := Lib.hid (G2.out.trans k)
  clear k
  go_wp2_with fail
  refine (C2.out _ G3.out).mono ?_
  rintro e w4 ⟨rfl, k⟩
  have G4 := Lib.hid (G3.out.trans k)
  clear k F1 F2 C1 C2
  have hRR : (R != R) = false := by simp
  go_wp2_with fail
  go_loopw [5] (fun i wr => ∃ k : Nat, k ≤ m ∧ k ≤ m' ∧ i = .int .i64 k ∧ Hid (Gr w wr)) (fun i _ => m - (intOf i).toNat)
  case atStart => exact ⟨0, Nat.zero_le _, Nat.zero_le _, rfl, G4⟩
  case round =>
    obtain ⟨k, hk, hk', rfl, hg⟩ := hrel
    by_cases hlt : k < m
    · by_cases hlt' : k < m'
      · obtain ⟨t, b, o, q, d, ht, rfl, hb, c1, c2, hs, hts⟩ := (HR.out.gr hg.out (Nat.le_refl _)) k (by rw [HM.out]; exact hlt)
        obtain ⟨t', b', o', q', d', ht', rfl, hb', c1', c2', hs', hts'⟩ := (HR'.out.gr hg.out (Nat.le_refl _)) k (by rw [HM'.out]; exact hlt')
        have KA := Lib.hid (fun w2 (g : Gr wr w2) => cmp_any t w.heap.size w2 _ t' _ (hg.out.trans g).size hts hts' (hs.gr g hg.out.size) (hs'.gr g hg.out.size))
        have KB := Lib.hid (fun w2 (g : Gr wr w2) => rcmp_any t w.heap.size w2 _ t' _ (hg.out.trans g).size hts hts' (hs.gr g hg.out.size) (hs'.gr g hg.out.size))
        have hb1 : b < wr.heap.size := Nat.lt_of_lt_of_le hb hg.out.size
        have hb1' : b' < wr.heap.size := Nat.lt_of_lt_of_le hb' hg.out.size
        clear hs hs' hts hts' ht ht'
        generalize t.nm = tn at *
        generalize t'.nm = tn' at *
        generalize t.args.length = ta at *
        generalize t'.args.length = ta' at *
        generalize cmpT t t' = z at *
        have Hb : Hid (∀ w', Gr wr w' → w'.cell? ⟨b, o + k * 2, none⟩ = some (.string tn) ∧ w'.cell? ⟨b, o + k * 2 + 1, none⟩ = some (.slice q ta d) ∧ w'.cell? ⟨b', o' + k * 2, none⟩ = some (.string tn') ∧ w'.cell? ⟨b', o' + k * 2 + 1, none⟩ = some (.slice q' ta' d') ∧ Hid (Gr wr w') ∧ wr.heap.size ≤ w'.heap.size) := Lib.hid (fun w' g => ⟨(g.cell hb1).trans c1, (g.cell hb1).trans c2, (g.cell hb1').trans c1', (g.cell hb1').trans c2', Lib.hid g, g.size⟩)
        go_upto_region 8 with fail
        go_cut [52] (fun s52 wx => s52 = .bool false ∧ Hid (Gr wr wx))
        case first =>
          have hs0 := Hb.out _ (TermR.Gr.dr (Gr.refl wr))
          have hzz : (z != z) = false := by simp
          clear HR HR' HM HM' CA G1 G2 G3 G4 c1 c2 c1' c2'
          go_region_held3 (fun w' => w'.cell? ⟨b, o + k * 2, none⟩ = some (.string tn) ∧ w'.cell? ⟨b, o + k * 2 + 1, none⟩ = some (.slice q ta d) ∧ w'.cell? ⟨b', o' + k * 2, none⟩ = some (.string tn') ∧ w'.cell? ⟨b', o' + k * 2 + 1, none⟩ = some (.slice q' ta' d') ∧ Hid (Gr wr w') ∧ wr.heap.size ≤ w'.heap.size)
            (first | (with_reducible assumption) | (with_reducible exact ⟨‹_›, ‹_›, ‹_›, ‹_›, ‹_›, ‹_›⟩) | (with_reducible refine Hb.out _ ?_; repeat (first | (with_reducible exact Hid.out (by assumption)) | (with_reducible exact Gr.refl _) | (with_reducible refine TermR.Gr.dr ?_) | (with_reducible refine Gr.more ?_ _))))
            (first | (go_at_call 36; (try go_split_ands); (with_reducible refine (KA.out _ (by repeat (first | (with_reducible exact Hid.out (by assumption)) | (with_reducible exact Gr.refl _) | (with_reducible refine TermR.Gr.dr ?_) | (with_reducible refine Gr.more ?_ _)))).mono ?_); rintro e w' ⟨rfl, q0⟩; (have qg : Gr wr w' := by (refine Gr.trans ?_ q0; repeat (first | (with_reducible exact Hid.out (by assumption)) | (with_reducible exact Gr.refl _) | (with_reducible refine TermR.Gr.dr ?_) | (with_reducible refine Gr.more ?_ _)))); clear q0; obtain ⟨z1, z2, z3, z4, z5, z6⟩ := Hb.out _ qg) | (go_at_call 37; (try go_split_ands); (with_reducible refine (KB.out _ (by repeat (first | (with_reducible exact Hid.out (by assumption)) | (with_reducible exact Gr.refl _) | (with_reducible refine TermR.Gr.dr ?_) | (with_reducible refine Gr.more ?_ _)))).mono ?_); rintro e w' ⟨rfl, q0⟩; (have qg : Gr wr w' := by (refine Gr.trans ?_ q0; repeat (first | (with_reducible exact Hid.out (by assumption)) | (with_reducible exact Gr.refl _) | (with_reducible refine TermR.Gr.dr ?_) | (with_reducible refine Gr.more ?_ _)))); clear q0; obtain ⟨z1, z2, z3, z4, z5, z6⟩ := Hb.out _ qg))
          all_goals
            go_wp2_with fail
            go_meet
            exact ⟨rfl, Lib.hid qg⟩
        case rest =>
          obtain ⟨rfl, G5⟩ := hcut
          go_wp2_with fail
          go_roundw
          case rel => exact ⟨k + 1, by omega, by omega, by go_num, Lib.hid (hg.out.trans G5.out)⟩
          case measure => simp [intOf]; omega
      · go_wp2_with fail
        refine (CA.out _ hg.out).mono ?_
        rintro e w5 ⟨rfl, k⟩
        have D := Lib.hid (next0 hg.out.1 k)
        clear k
        go_wp2_with fail
        go_ret
        exact ⟨rfl, D.out⟩
    · go_wp2_with fail
      refine (CA.out _ hg.out).mono ?_
      rintro e w5 ⟨rfl, k⟩
      have D := Lib.hid (next0 hg.out.1 k)
      clear k
      go_wp2_with fail
      go_ret
      exact ⟨rfl, D.out⟩
end TermL4
end Go.Proofs.YteabkoibinbcdaaDoor
