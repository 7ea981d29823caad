/- Texts laid together: PriY; PriW; PriX. Their own heads stand before each. -/
import Derived.Test.YtfdpelokiljigaaDoorPk31
import Derived.Test.YtfdpelokiljigaaDoorPk28
import Derived.Test.YtfdpelokiljigaaDoorPk21
import Derived.Deep.RegionWith
import Derived.BigQuiet
import Derived.Deep.RegionHeld3
import Derived.Deep.DeepCutAuto
import Derived.Test.YtfdpelokiljigaaDoorPk18
/- The walk of PrinterJoins. Conditions: the reserved words and the three signs lie as laid. -/
namespace Go.Proofs.YtfdpelokiljigaaDoor
open Go Go.RowKit
namespace PriY
open Kit LexM TermM TermI TermU LexP ParM ParK ParV ParP ParQ ParAp PriM PriA PriB PriC PriD PriE PriF PriK PriN PriR PriS PriAx PriT PriU
set_option maxRecDepth 100000 in
set_option maxHeartbeats 6400000 in
theorem joins (l m : List Rl) (w : World) (sv sv' : Value) (hw : LexE.Wd w) (hw2 : TermT.Wd w) (h : RIn (· < w.heap.size) w l sv) (h' : RIn (· < w.heap.size) w m sv') :
    Calls Tryd.prog 10 #[sv, sv'] w fun e w' => e = .returned (.bool true) ∧ Below w.heap.size w w' := by
  have HA := Lib.hid awake_any
  have HW := Lib.hid hw
  have HW2 := Lib.hid hw2
  clear hw hw2
  obtain ⟨p1, c1, rfl, hc1, hm1, _⟩ := RIn.row h
  obtain ⟨p2, c2, rfl, hc2, hm2, _⟩ := RIn.row h'
  have hl1 : l.length ≤ 9223372036854775807 := Nat.le_trans hc1 hm1
  have hl2 : m.length ≤ 9223372036854775807 := Nat.le_trans hc2 hm2
  clear hc1 hm1 hc2 hm2
  by_cases hs : 60 < l.length
  · have hs1 : (60 : Int) < (l.length : Int) := by omega
    clear h h'
    generalize l.length = n at *
    generalize m.length = n2 at *
    go_enter Tryd.func10, Tryd.ntmps10
    go_wp2_with fail
    refine (HA.out w HW.out HW2.out).mono ?_
    rintro e w8 ⟨rfl, g8⟩
    have B8 := Lib.hid g8
    clear g8
    go_wp2_with fail
    go_ret
    exact ⟨rfl, B8.out⟩
  by_cases hu : 60 < m.length
  · have hs1 : ¬ (60 : Int) < (l.length : Int) := by omega
    have hs2 : (60 : Int) < (m.length : Int) := by omega
    clear h h'
    generalize l.length = n at *
    generalize m.length = n2 at *
    go_enter Tryd.func10, Tryd.ntmps10
    go_wp2_with fail
    refine (HA.out w HW.out HW2.out).mono ?_
    rintro e w8 ⟨rfl, g8⟩
    have B8 := Lib.hid g8
    clear g8
    go_wp2_with fail
    go_ret
    exact ⟨rfl, B8.out⟩
  have hs1 : ¬ (60 : Int) < (l.length : Int) := by omega
  have hs2 : ¬ (60 : Int) < (m.length : Int) := by omega
  have hn1 : l.length ≤ 60 := by omega
  have hn2 : m.length ≤ 60 := by omega
  have RL := Lib.hid (fun (w' : World) (g : Below w.heap.size w w') => rules_any l w.heap.size w' _ (HW2.out.below g HW2.out.1) g.size (h.keep fun b o hb => g.cell (p := ⟨b, o, none⟩) hb))
  have RM := Lib.hid (fun (w' : World) (g : Below w.heap.size w w') => rules_any m w.heap.size w' _ (HW2.out.below g HW2.out.1) g.size (h'.keep fun b o hb => g.cell (p := ⟨b, o, none⟩) hb))
  have OKS : Hid ((rulesF l).2 = 0 → (rulesF m).2 = 0 → (rulesF (l ++ m)).2 = 0 → bs (rulesF (l ++ m)).1 = bs (rulesF l).1 ++ bs (rulesF m).1 ∧ (bs (rulesF l).1).size ≤ 16384 ∧ (bs (rulesF m).1).size ≤ 16384) := Lib.hid (fun a b c => by
    obtain ⟨a1, _, _, a4⟩ := rules_ok a
    obtain ⟨b1, _, _, b4⟩ := rules_ok b
    obtain ⟨d1, _, _, _⟩ := rules_ok c
    rw [a1, b1, d1, desc_app, bs_size, bs_size, bs_app]
    exact ⟨rfl, a4, b4⟩)
  obtain ⟨L1, e1, R1⟩ := h
  obtain ⟨L2, e2, R2⟩ := h'
  have hl1' : L1.length = l.length := by rw [← e1]; simp
  have hl2' : L2.length = m.length := by rw [← e2]; simp
  have one1 := Lib.hid (one_row R1)
  have one2 := Lib.hid (one_row R2)
  have Q1 := Lib.hid R1
  have Q2 := Lib.hid R2
  have HL := Lib.hid (And.intro hl1' hl2')
  have E12 : Hid ((L1 ++ L2).map (·.1) = l ++ m) := Lib.hid (by rw [List.map_append, e1, e2])
  obtain ⟨iR, hiR, hzR1, hzR2, hzR3⟩ := info_parts Tryd.infoR
  have IR := Lib.hid (And.intro hiR (And.intro hzR1 (And.intro hzR2 hzR3)))
  have HN12 := Lib.hid (And.intro hn1 hn2)
  clear hiR hzR1 hzR2 hzR3 R1 R2 hl1' hl2' e1 e2 hs hu
  go_enter Tryd.func10, Tryd.ntmps10
  go_upto_region 3 with fail
  obtain ⟨W4, hW4⟩ : ∃ W4, W4 = w.alloc (.cells #[] 27) := ⟨_, rfl⟩
  have G4 : Gr w W4 := by rw [hW4]; exact Gr.alloc _ _
  have own0 : Hid (W4.ownsRow w.heap.size 27 3 (.slice (some ⟨w.heap.size, 0, none⟩) 0 0) 0 []) := Lib.hid (by rw [hW4]; exact World.ownsRow_lit w #[] 0 (Nat.le_refl _) (by decide) rfl)
  have Q1' : Hid (RowG KR (· < w.heap.size) W4 L1 (.slice p1 l.length c1)) := Lib.hid (Q1.out.keep fun b o hb => G4.cell hb)
  have hw4 : w.heap.size ≤ W4.heap.size := G4.size
  have GG4 := Lib.hid G4
  have HW4 := Lib.hid hW4
  clear hW4 G4
  have hm1 : 0 + L1.length ≤ maxLen := by have := HL.out; have := HN12.out; unfold maxLen; omega
  have hm2 : (0 + L1.length) * 64 ≤ 140737488355328 := by have := HL.out; have := HN12.out; omega
  have hm3 : L1.length + L2.length ≤ maxLen := by have := HL.out; have := HN12.out; unfold maxLen; omega
  have hm4 : (L1.length + L2.length) * 64 ≤ 140737488355328 := by have := HL.out; have := HN12.out; omega
  have M1 := Lib.hid hm1
  have M2 := Lib.hid hm2
  have M3 := Lib.hid hm3
  have M4 := Lib.hid hm4
  clear hm1 hm2 hm3 hm4 hn1 hn2 hl1 hl2
  go_wp2_with (at_builtin; (try rw [← HW4.out]); refine wpList_held (by rfl) (fun K hK => ?_); refine wp_append_row (K := KR) (.tmp 22) (.tmp 23) 37 rfl w.heap.size iR _ 64 Tryd.underlying37 IR.out.1 IR.out.2.1 IR.out.2.2.1 IR.out.2.2.2 rfl L1 one1.out (.slice (some ⟨w.heap.size, 0, none⟩) 0 0) 0 [] rfl own0.out (· < w.heap.size) _ rfl Q1'.out M1.out M2.out hw4 ?_)
  intro v1 w5 hown1 hgrow1
  refine hK _ _ ?_
  clear hK K
  (try simp only [Nat.zero_add, List.nil_append] at hown1)
  have G5 : Below w.heap.size w w5 := GG4.out.1.trans ⟨hgrow1.os, hgrow1.tape, hgrow1.output, hgrow1.size, fun i hi => hgrow1.block i (Nat.lt_of_lt_of_le hi hw4) (fun e => by have h2 : i = w.heap.size := Option.some.inj e; omega)⟩
  have O1 := Lib.hid hown1
  have hge1 := Lib.hid (LexG.own_ge hown1)
  have Q2' : Hid (RowG KR (· < w.heap.size) w5 L2 (.slice p2 m.length c2)) := Lib.hid (Q2.out.keep fun b o hb => G5.cell (p := ⟨b, o, none⟩) hb)
  have hw5 : w.heap.size ≤ w5.heap.size := G5.size
  have GG5 := Lib.hid G5
  clear hown1 hgrow1 G5 own0 Q1' GG4 hw4
  go_wp2_with (at_builtin; refine wpList_held (by rfl) (fun K hK => ?_); refine wp_append_row (K := KR) (.tmp 24) (.tmp 25) 37 rfl w.heap.size iR _ 64 Tryd.underlying37 IR.out.1 IR.out.2.1 IR.out.2.2.1 IR.out.2.2.2 rfl L2 one2.out v1 L1.length (KR.flat L1) rfl O1.out (· < w.heap.size) _ rfl Q2'.out M3.out M4.out hw5 ?_)
  intro v2 w6 hown2 hgrow2
  refine hK _ _ ?_
  clear hK K
  have G6 : Below w.heap.size w w6 := GG5.out.trans ⟨hgrow2.os, hgrow2.tape, hgrow2.output, hgrow2.size, fun i hi => hgrow2.block i (Nat.lt_of_lt_of_le hi hw5) (fun e => by have := hge1.out i e.symm; omega)⟩
  have hw6 : w.heap.size ≤ w6.heap.size := G6.size
  have X4 : RIn (· < w6.heap.size) w6 (l ++ m) v2 := by
    refine ⟨L1 ++ L2, E12.out, row_of_own (base := w.heap.size) (by rw [List.length_append, flat_app]; exact hown2) (fun x hx => ?_) (fun g hg => (hown2.lt g hg).2)⟩
    rcases List.mem_append.1 hx with hx | hx
    · obtain ⟨_, _, _, _, _, hi, _⟩ := Q1.out
      exact KR.wide (KR.keep (hi x hx) fun b o hb => G6.cell (p := ⟨b, o, none⟩) hb) fun b hb => Nat.lt_of_lt_of_le hb hw6
    · obtain ⟨_, _, _, _, _, hi, _⟩ := Q2.out
      exact KR.wide (KR.keep (hi x hx) fun b o hb => G6.cell (p := ⟨b, o, none⟩) hb) fun b hb => Nat.lt_of_lt_of_le hb hw6
  obtain ⟨pA, cA, rfl, hcA, hmA, hRA⟩ := RIn.row X4
  have hnA : (l ++ m).length ≤ 120 := by rw [List.length_append]; have := HN12.out; omega
  have HR := Lib.hid hRA
  have B6 := Lib.hid G6
  have FW := Lib.hid (fun (t : Rl) (w' : World) (sa sl : Value) (hb : w6.heap.size ≤ w'.heap.size) (ha : SlIn (· < w6.heap.size) w' t.1.args sa) (hl : LIn (· < w6.heap.size) w' t.2 sl) => few_any t w6.heap.size w' sa sl hb ha hl)
  have RA := Lib.hid (fun (w' : World) (g : Below w6.heap.size w6 w') => rules_any (l ++ m) w6.heap.size w' _ (HW2.out.below (next0 G6 g) HW2.out.1) g.size (X4.keep fun b o hb => g.cell (p := ⟨b, o, none⟩) hb))
  clear X4 hown2 hgrow2 G6 Q2' O1 GG5 hge1 Q1 Q2 one1 one2 HL E12 IR M1 M2 M3 M4 hw5 hw6 HW4 hRA hcA hmA HN12
  generalize bs (rulesF (l ++ m)).1 = SA at *
  generalize (rulesF (l ++ m)).2 = EA at *
  generalize bs (rulesF l).1 = S1 at *
  generalize (rulesF l).2 = E1 at *
  generalize bs (rulesF m).1 = S2 at *
  generalize (rulesF m).2 = E2 at *
  generalize l ++ m = A at *
  generalize l.length = n1 at *
  generalize m.length = n2 at *
  generalize hln : A.length = n at *
  have HN := Lib.hid hln
  clear hln
  go_wp2_with fail
  go_loopw [6] (fun i wL => ∃ k : Nat, k ≤ n ∧ i = .int .i64 k ∧ Hid (Gr w6 wL)) (fun i _ => n - (intOf i).toNat)
  case atStart => exact ⟨0, by omega, rfl, Lib.hid (Gr.refl _)⟩
  case round =>
    obtain ⟨k, hk, rfl, hG⟩ := hrel
    by_cases hlt : k < n
    · obtain ⟨t, b, o, q, d, u, f, ht, rfl, hb, c1, c2, c3, hs, hu, hts⟩ := (RowR.gr HR.out hG.out (Nat.le_refl _)) k (by rw [HN.out]; exact hlt)
      have K1 := Lib.hid (FW.out t wr _ _ hG.out.size hs hu)
      clear ht hs hu hts
      generalize t.1.nm = tn at *
      generalize t.1.args.length = ta at *
      generalize t.2.length = tb at *
      go_wp2_with fail
      refine K1.out.mono ?_
      rintro e w2 ⟨b2, rfl, g2⟩
      have G2 := Lib.hid (hG.out.trans g2)
      have B2 := Lib.hid (next0 B6.out G2.out.1)
      clear g2 K1 c1 c2 c3
      cases b2
      · go_wp2_with fail
        refine (HA.out w2 (HW.out.below B2.out HW.out.1) (HW2.out.below B2.out HW2.out.1)).mono ?_
        rintro e w3 ⟨rfl, k3⟩
        have B3 := Lib.hid (next0 B2.out k3)
        clear k3
        go_wp2_with fail
        go_ret
        exact ⟨rfl, B3.out⟩
      · go_wp2_with fail
        go_roundw
        case rel => exact ⟨k + 1, by omega, by go_num, G2⟩
        case measure => simp [intOf] <;> omega
    · obtain rfl : k = n := by omega
      have BL := Lib.hid (next0 B6.out hG.out.1)
      have HG := Lib.hid hG.out.1
      clear FW HR HN
      go_wp2_with fail
      refine (RL.out wr BL.out).mono ?_
      rintro e w1 ⟨rfl, k1⟩
      have B1 := Lib.hid (next0 BL.out k1)
      have D1 := Lib.hid (next0 HG.out k1)
      clear k1 RL
      go_wp2_with fail
      refine (RM.out w1 B1.out).mono ?_
      rintro e w2 ⟨rfl, k2⟩
      have B2 := Lib.hid (next0 B1.out k2)
      have D2 := Lib.hid (next0 D1.out k2)
      clear k2 RM B1 D1
      go_wp2_with fail
      refine (RA.out w2 D2.out).mono ?_
      rintro e w3 ⟨rfl, k3⟩
      have B3 := Lib.hid (next0 B2.out k3)
      clear k3 RA B2 D2
      have C3 := Lib.hid (HA.out w3 (HW.out.below B3.out HW.out.1) (HW2.out.below B3.out HW2.out.1))
      by_cases h1 : E1 = 0
      · subst h1
        by_cases h2 : E2 = 0
        · subst h2
          by_cases h3 : EA = 0
          · subst h3
            obtain ⟨e3, z1, z2⟩ := OKS.out rfl rfl rfl
            clear OKS
            subst e3
            have p0 := fun w' => run_string_add_sum (P := Tryd.prog) w' S1 S2 (by omega)
            have hq : ((S1 ++ S2).toList == (S1 ++ S2).toList) = true := by simp
            go_wp2_with fail
            refine C3.out.mono ?_
            rintro e w4 ⟨rfl, k4⟩
            have B4 := Lib.hid (next0 B3.out k4)
            clear k4
            go_wp2_with fail
            go_ret
            exact ⟨rfl, B4.out⟩
          · have g3 : (EA != 0) = true := by rw [bne_iff_ne]; exact h3
            clear OKS h3
            go_wp2_with fail
            refine C3.out.mono ?_
            rintro e w4 ⟨rfl, k4⟩
            have B4 := Lib.hid (next0 B3.out k4)
            clear k4
            go_wp2_with fail
            go_ret
            exact ⟨rfl, B4.out⟩
        · have g2 : (E2 != 0) = true := by rw [bne_iff_ne]; exact h2
          clear OKS h2
          go_wp2_with fail
          refine C3.out.mono ?_
          rintro e w4 ⟨rfl, k4⟩
          have B4 := Lib.hid (next0 B3.out k4)
          clear k4
          go_wp2_with fail
          go_ret
          exact ⟨rfl, B4.out⟩
      · have g1 : (E1 != 0) = true := by rw [bne_iff_ne]; exact h1
        clear OKS h1
        go_wp2_with fail
        refine C3.out.mono ?_
        rintro e w4 ⟨rfl, k4⟩
        have B4 := Lib.hid (next0 B3.out k4)
        clear k4
        go_wp2_with fail
        go_ret
        exact ⟨rfl, B4.out⟩
end PriY
end Go.Proofs.YtfdpelokiljigaaDoor
/- The walks of PrinterTexts and PrinterTerms. Conditions: the reserved words and the three signs lie as laid; texts of at most 10^8 bytes. -/
namespace Go.Proofs.YtfdpelokiljigaaDoor
open Go Go.RowKit
namespace PriW
open Kit LexM TermM TermI TermU LexP ParM ParK ParV ParP ParQ PriM PriA PriB PriC PriD PriE PriF PriK PriL PriN PriR PriS PriAx PriT PriU
theorem b_more {W w : World} (h : Below W.heap.size W w) (o : Obj) : Below W.heap.size W (w.alloc o) := h.alloc h.size o
set_option maxRecDepth 100000 in
set_option maxHeartbeats 6400000 in
theorem texts (r : Rl) (w : World) (sa sl : Value) (hw : LexE.Wd w) (hw2 : TermT.Wd w) (ha : SlIn (· < w.heap.size) w r.1.args sa) (hl : LIn (· < w.heap.size) w r.2 sl) (hz : Sm r) :
    Calls Tryd.prog 3 #[.agg #[.string r.1.nm, sa, sl]] w fun e w' => e = .returned (.bool true) ∧ Below w.heap.size w w' := by
  have HA := Lib.hid awake_any
  have HW := Lib.hid hw
  have HW2 := Lib.hid hw2
  clear hw hw2
  obtain ⟨p, c, rfl⟩ := ha.form
  obtain ⟨p', c', rfl, hc, hm, hR⟩ := LIn.row hl
  have hlm : r.2.length ≤ maxLen := Nat.le_trans hc hm
  unfold maxLen at hlm
  obtain ⟨W1, hW1⟩ : ∃ W1, W1 = w.alloc (.cells #[.string r.1.nm, .slice p r.1.args.length c, .slice p' r.2.length c'] 27) := ⟨_, rfl⟩
  have G1 : Gr w W1 := by rw [hW1]; exact Gr.alloc _ _
  have H1 : Hid (Has W1 w.heap.size #[.string r.1.nm, .slice p r.1.args.length c, .slice p' r.2.length c']) := Lib.hid (by rw [hW1]; exact Has.new w _ _)
  have kp : ∀ {w' : World}, Below W1.heap.size W1 w' → Below w.heap.size w w' := fun k => next0 G1.1 k
  have FW := Lib.hid (few_any r w.heap.size W1 _ _ G1.size (ha.gr G1 (Nat.le_refl _)) (hl.gr G1 (Nat.le_refl _)))
  have KR1 := Lib.hid (fun (w' : World) (k : Below W1.heap.size W1 w') => rule_any r w.heap.size w' _ _ (HW2.out.below (kp k) HW2.out.1) (kp k).size (ha.deep (kp k) (Nat.le_refl _)) (hl.keep fun b o hb => (kp k).cell (p := ⟨b, o, none⟩) hb) hz)
  have KR2 := Lib.hid (fun (w' : World) (k : Below W1.heap.size W1 w') => (rrule_any r w.heap.size w' _ _ (kp k).size (ha.deep (kp k) (Nat.le_refl _)) (hl.keep fun b o hb => (kp k).cell (p := ⟨b, o, none⟩) hb) hz).mono fun _ _ h => (And.intro h.1 h.2.1 : _ ∧ Below w'.heap.size w' _))
  have AW := Lib.hid (fun (w' : World) (k : Below W1.heap.size W1 w') => HA.out w' (HW.out.below (kp k) HW.out.1) (HW2.out.below (kp k) HW2.out.1))
  have RW := Lib.hid (fun (w' : World) (k : Below W1.heap.size W1 w') => (fun (j : Nat) (hj : j < r.2.length) => by
    obtain ⟨t, b, o, q, d, e1, e2, e3, e4, e5, e6, e7, e8⟩ := hR j hj
    have g := kp k
    exact (⟨t, b, o, q, d, e1, e2, e3, (g.cell (p := ⟨b, _, none⟩) e3).trans e4, (g.cell (p := ⟨b, _, none⟩) e3).trans e5, (g.cell (p := ⟨b, _, none⟩) e3).trans e6, e7.deep g (Nat.le_refl _), e8⟩ : ∃ t b o q d, r.2[j]? = some t ∧ p' = some ⟨b, o, none⟩ ∧ b < w.heap.size ∧ w'.cell? ⟨b, o + j * 3, none⟩ = some (.bool t.1) ∧ w'.cell? ⟨b, o + j * 3 + 1, none⟩ = some (.string t.2.nm) ∧ w'.cell? ⟨b, o + j * 3 + 1 + 1, none⟩ = some (.slice q t.2.args.length d) ∧ SlIn (· < w.heap.size) w' t.2.args (.slice q t.2.args.length d) ∧ t.2.nm.size ≤ maxLen)))
  have SZ := Lib.hid hz.2.2.1
  have HG := Lib.hid G1
  have KP := Lib.hid (fun (w' : World) (k : Below W1.heap.size W1 w') => kp k)
  have HS := Lib.hid (show w.heap.size < W1.heap.size from by rw [hW1]; simp)
  obtain ⟨t, l⟩ := r
  dsimp only at *
  clear hR ha hl hc hm hz G1 kp
  generalize bs (ruleX (t, l)) = TX at *
  generalize t.nm = tn at *
  generalize t.args.length = ta at *
  generalize hln : l.length = n at *
  have HN := Lib.hid hln
  clear hln
  go_enter Tryd.func3, Tryd.ntmps3
  go_upto_region 1 with fail
  rw [← hW1]
  clear hW1
  obtain ⟨x1, x2, x3⟩ := three H1.out
  go_wp2_with fail
  refine FW.out.mono ?_
  rintro e w2 ⟨b2, rfl, g2⟩
  have B2 := Lib.hid g2.1
  clear g2 FW x1 x2 x3
  cases b2
  · go_wp2_with fail
    refine (AW.out w2 B2.out).mono ?_
    rintro e w3 ⟨rfl, k3⟩
    have B3 := Lib.hid (KP.out _ (next0 B2.out k3))
    clear k3
    go_wp2_with fail
    go_ret
    exact ⟨rfl, B3.out⟩
  · go_wp2_with fail
    go_loopw [3] (fun i wL => ∃ k : Nat, k ≤ n ∧ i = .int .i64 k ∧ Hid (Below W1.heap.size W1 wL)) (fun i _ => n - (intOf i).toNat)
    case atStart => exact ⟨0, by omega, rfl, B2⟩
    case round =>
      obtain ⟨k, hk, rfl, hB⟩ := hrel
      have hbox : w.heap.size < wr.heap.size := Nat.lt_of_lt_of_le HS.out hB.out.size
      obtain ⟨x1, x2, x3⟩ := three (H1.out.step0 hB.out)
      by_cases hlt : k < n
      · obtain ⟨t2, b, o, q, d, ht, rfl, hb, c1, c2, c3, hs, hts⟩ := RW.out wr hB.out k hlt
        have hz2 := SZ.out t2 (List.mem_of_getElem? ht)
        have LA := Lib.hid (fun (w3 : World) (g : Below wr.heap.size wr w3) => lit_any t2 w.heap.size w3 _ (HW2.out.below (KP.out _ (next0 hB.out g)) HW2.out.1) (KP.out _ (next0 hB.out g)).size (hs.deep g (KP.out _ hB.out).size) hz2)
        have LB := Lib.hid (fun (w3 : World) (g : Below wr.heap.size wr w3) => (rlit_any t2 w.heap.size w3 _ (KP.out _ (next0 hB.out g)).size (hs.deep g (KP.out _ hB.out).size) hz2).mono fun _ _ h => (And.intro h.1 h.2.1 : _ ∧ Below w3.heap.size w3 _))
        have hb1 : b < wr.heap.size := Nat.lt_of_lt_of_le hb (KP.out _ hB.out).size
        clear ht hs hts hz2
        generalize bs (litX t2) = LX at *
        generalize t2.1 = t1 at *
        generalize t2.2.nm = tn2 at *
        generalize t2.2.args.length = ta2 at *
        have Hb : Hid (∀ w', Below wr.heap.size wr w' → w'.cell? ⟨w.heap.size, 2, none⟩ = some (.slice (some ⟨b, o, none⟩) n c') ∧ w'.cell? ⟨b, o + k * 3, none⟩ = some (.bool t1) ∧ w'.cell? ⟨b, o + k * 3 + 1, none⟩ = some (.string tn2) ∧ w'.cell? ⟨b, o + k * 3 + 1 + 1, none⟩ = some (.slice q ta2 d) ∧ Hid (Below wr.heap.size wr w') ∧ wr.heap.size ≤ w'.heap.size) := Lib.hid (fun w' g => ⟨(g.cell (p := ⟨w.heap.size, _, none⟩) hbox).trans x3, (g.cell (p := ⟨b, _, none⟩) hb1).trans c1, (g.cell (p := ⟨b, _, none⟩) hb1).trans c2, (g.cell (p := ⟨b, _, none⟩) hb1).trans c3, Lib.hid g, g.size⟩)
        go_upto_region 6 with fail
        go_cut [27] (fun s27 wx => s27 = .bool false ∧ Hid (Below wr.heap.size wr wx))
        case first =>
          have hs0 := Hb.out _ (Below.refl _ _).drew
          have hzz2 : (LX.toList != LX.toList) = false := by simp
          clear x1 x2 x3 c1 c2 c3 HA HW HW2 KR1 KR2 AW RW SZ HG KP B2 H1
          go_region_held3 (fun w' => w'.cell? ⟨w.heap.size, 2, none⟩ = some (.slice (some ⟨b, o, none⟩) n c') ∧ w'.cell? ⟨b, o + k * 3, none⟩ = some (.bool t1) ∧ w'.cell? ⟨b, o + k * 3 + 1, none⟩ = some (.string tn2) ∧ w'.cell? ⟨b, o + k * 3 + 1 + 1, none⟩ = some (.slice q ta2 d) ∧ Hid (Below wr.heap.size wr w') ∧ wr.heap.size ≤ w'.heap.size)
            (first | (with_reducible assumption) | (with_reducible exact ⟨‹_›, ‹_›, ‹_›, ‹_›, ‹_›, ‹_›⟩) | (with_reducible refine Hb.out _ ?_; repeat (first | (with_reducible exact Hid.out (by assumption)) | (with_reducible exact Below.refl _ _) | (with_reducible refine Below.drew ?_) | (with_reducible refine b_more ?_ _))))
            (first | (go_at_call 13; (try go_split_ands); (with_reducible refine (LA.out _ (by repeat (first | (with_reducible exact Hid.out (by assumption)) | (with_reducible exact Below.refl _ _) | (with_reducible refine Below.drew ?_) | (with_reducible refine b_more ?_ _)))).mono ?_); rintro e w' ⟨rfl, q0⟩; (have qg : Below wr.heap.size wr w' := by (refine next0 ?_ q0; repeat (first | (with_reducible exact Hid.out (by assumption)) | (with_reducible exact Below.refl _ _) | (with_reducible refine Below.drew ?_) | (with_reducible refine b_more ?_ _)))); clear q0; obtain ⟨z1, z2, z3, z4, z5, z6⟩ := Hb.out _ qg) | (go_at_call 14; (try go_split_ands); (with_reducible refine (LB.out _ (by repeat (first | (with_reducible exact Hid.out (by assumption)) | (with_reducible exact Below.refl _ _) | (with_reducible refine Below.drew ?_) | (with_reducible refine b_more ?_ _)))).mono ?_); rintro e w' ⟨rfl, q0⟩; (have qg : Below wr.heap.size wr w' := by (refine next0 ?_ q0; repeat (first | (with_reducible exact Hid.out (by assumption)) | (with_reducible exact Below.refl _ _) | (with_reducible refine Below.drew ?_) | (with_reducible refine b_more ?_ _)))); clear q0; obtain ⟨z1, z2, z3, z4, z5, z6⟩ := Hb.out _ qg))
          all_goals
            go_wp2_with fail
            go_meet
            exact ⟨rfl, Lib.hid qg⟩
        case rest =>
          obtain ⟨rfl, G5⟩ := hcut
          go_wp2_with fail
          go_roundw
          case rel => exact ⟨k + 1, by omega, by go_num, Lib.hid (next0 hB.out G5.out)⟩
          case measure => simp [intOf] <;> omega
      · obtain rfl : k = n := by omega
        have LA := Lib.hid (fun (w3 : World) (g : Below wr.heap.size wr w3) => KR1.out w3 (next0 hB.out g))
        have LB := Lib.hid (fun (w3 : World) (g : Below wr.heap.size wr w3) => KR2.out w3 (next0 hB.out g))
        have LC := Lib.hid (fun (w3 : World) (g : Below wr.heap.size wr w3) => AW.out w3 (next0 hB.out g))
        have Hb : Hid (∀ w', Below wr.heap.size wr w' → w'.cell? ⟨w.heap.size, 0, none⟩ = some (.string tn) ∧ w'.cell? ⟨w.heap.size, 1, none⟩ = some (.slice p ta c) ∧ w'.cell? ⟨w.heap.size, 2, none⟩ = some (.slice p' k c') ∧ Hid (Below wr.heap.size wr w') ∧ wr.heap.size ≤ w'.heap.size) := Lib.hid (fun w' g => ⟨(g.cell (p := ⟨w.heap.size, _, none⟩) hbox).trans x1, (g.cell (p := ⟨w.heap.size, _, none⟩) hbox).trans x2, (g.cell (p := ⟨w.heap.size, _, none⟩) hbox).trans x3, Lib.hid g, g.size⟩)
        go_upto_region 8 with fail
        go_cut [2] (fun s2 wx => s2 = .bool true ∧ Hid (Below wr.heap.size wr wx))
        case first =>
          have hs0 := Hb.out _ (Below.refl _ _).drew
          have q5 : (TX.toList == TX.toList) = true := by simp
          clear x1 x2 x3 HA HW HW2 KR1 KR2 AW RW SZ HG KP B2 H1
          go_region_held3 (fun w' => w'.cell? ⟨w.heap.size, 0, none⟩ = some (.string tn) ∧ w'.cell? ⟨w.heap.size, 1, none⟩ = some (.slice p ta c) ∧ w'.cell? ⟨w.heap.size, 2, none⟩ = some (.slice p' k c') ∧ Hid (Below wr.heap.size wr w') ∧ wr.heap.size ≤ w'.heap.size)
            (first | (with_reducible assumption) | (with_reducible exact ⟨‹_›, ‹_›, ‹_›, ‹_›, ‹_›⟩) | (with_reducible refine Hb.out _ ?_; repeat (first | (with_reducible exact Hid.out (by assumption)) | (with_reducible exact Below.refl _ _) | (with_reducible refine Below.drew ?_) | (with_reducible refine b_more ?_ _))))
            (first | (go_at_call 15; (try go_split_ands); (with_reducible refine (LA.out _ (by repeat (first | (with_reducible exact Hid.out (by assumption)) | (with_reducible exact Below.refl _ _) | (with_reducible refine Below.drew ?_) | (with_reducible refine b_more ?_ _)))).mono ?_); rintro e w' ⟨rfl, q0⟩; (have qg : Below wr.heap.size wr w' := by (refine next0 ?_ q0; repeat (first | (with_reducible exact Hid.out (by assumption)) | (with_reducible exact Below.refl _ _) | (with_reducible refine Below.drew ?_) | (with_reducible refine b_more ?_ _)))); clear q0; obtain ⟨z1, z2, z3, z4, z5⟩ := Hb.out _ qg) | (go_at_call 16; (try go_split_ands); (with_reducible refine (LB.out _ (by repeat (first | (with_reducible exact Hid.out (by assumption)) | (with_reducible exact Below.refl _ _) | (with_reducible refine Below.drew ?_) | (with_reducible refine b_more ?_ _)))).mono ?_); rintro e w' ⟨rfl, q0⟩; (have qg : Below wr.heap.size wr w' := by (refine next0 ?_ q0; repeat (first | (with_reducible exact Hid.out (by assumption)) | (with_reducible exact Below.refl _ _) | (with_reducible refine Below.drew ?_) | (with_reducible refine b_more ?_ _)))); clear q0; obtain ⟨z1, z2, z3, z4, z5⟩ := Hb.out _ qg) | (go_at_call 12; (try go_split_ands); (with_reducible refine (LC.out _ (by repeat (first | (with_reducible exact Hid.out (by assumption)) | (with_reducible exact Below.refl _ _) | (with_reducible refine Below.drew ?_) | (with_reducible refine b_more ?_ _)))).mono ?_); rintro e w' ⟨rfl, q0⟩; (have qg : Below wr.heap.size wr w' := by (refine next0 ?_ q0; repeat (first | (with_reducible exact Hid.out (by assumption)) | (with_reducible exact Below.refl _ _) | (with_reducible refine Below.drew ?_) | (with_reducible refine b_more ?_ _)))); clear q0; obtain ⟨z1, z2, z3, z4, z5⟩ := Hb.out _ qg))
          all_goals
            go_wp2_with fail
            go_meet
            exact ⟨rfl, Lib.hid qg⟩
        case rest =>
          obtain ⟨rfl, hq⟩ := hcut
          go_wp2_with fail
          go_ret
          exact ⟨rfl, KP.out _ (next0 hB.out hq.out)⟩
set_option maxRecDepth 100000 in
set_option maxHeartbeats 6400000 in
theorem terms (l : List Tm) (w : World) (sv : Value) (hw : LexE.Wd w) (hw2 : TermT.Wd w) (h : SlIn (· < w.heap.size) w l sv) (ht : ∀ t ∈ l, (textT t).length ≤ 100000000) (hz : (termsX l).length ≤ 140737488355328) :
    Calls Tryd.prog 4 #[sv] w fun e w' => e = .returned (.bool true) ∧ Below w.heap.size w w' := by
  have HA := Lib.hid awake_any
  have HW := Lib.hid hw
  have HW2 := Lib.hid hw2
  clear hw hw2
  have SM := Lib.hid (TermS.smalls_any l w.heap.size w sv (Nat.le_refl _) h)
  have C1 := Lib.hid (fun (h40 : l.length ≤ 40) (w1 : World) (g : Below w.heap.size w w1) => terms_any l w.heap.size w1 sv (HW2.out.below g HW2.out.1) g.size (h.deep g (Nat.le_refl _)) (by omega) ht hz)
  have HL : Hid ((decide (l.length ≤ 40) && l.all fun t => decide (TermS.partsT 40 40 t ≤ 40)) = true → l.length ≤ 40) := Lib.hid (fun h => by rw [Bool.and_eq_true, decide_eq_true_eq] at h; exact h.1)
  have C2 := Lib.hid (fun (w1 : World) (g : Below w.heap.size w w1) => rterms_any l w.heap.size w1 sv g.size (h.deep g (Nat.le_refl _)) ht hz)
  obtain ⟨p, c, rfl⟩ := h.form
  clear h ht hz
  generalize (decide (l.length ≤ 40) && l.all fun t => decide (TermS.partsT 40 40 t ≤ 40)) = R at *
  generalize bs (termsX l) = S at *
  generalize l.length = n at *
  go_enter Tryd.func4, Tryd.ntmps4
  go_wp2_with fail
  refine SM.out.mono ?_
  rintro e w1 ⟨rfl, g1⟩
  have B1 := Lib.hid g1.1
  clear g1 SM
  cases R
  · go_wp2_with fail
    refine (HA.out w1 (HW.out.below B1.out HW.out.1) (HW2.out.below B1.out HW2.out.1)).mono ?_
    rintro e w3 ⟨rfl, k3⟩
    have B3 := Lib.hid (next0 B1.out k3)
    clear k3
    go_wp2_with fail
    go_ret
    exact ⟨rfl, B3.out⟩
  · have C1 := Lib.hid (C1.out (HL.out rfl))
    clear HL
    go_wp2_with fail
    refine (C1.out w1 B1.out).mono ?_
    rintro e w2 ⟨rfl, k2⟩
    have B2 := Lib.hid (next0 B1.out k2)
    clear k2 C1 B1
    go_wp2_with fail
    refine (C2.out w2 B2.out).mono ?_
    rintro e w3 ⟨rfl, k3⟩
    have B3 := Lib.hid (next0 B2.out k3.1)
    clear k3 C2 B2
    go_wp2_with fail
    refine (HA.out w3 (HW.out.below B3.out HW.out.1) (HW2.out.below B3.out HW2.out.1)).mono ?_
    rintro e w4 ⟨rfl, k4⟩
    have B4 := Lib.hid (next0 B3.out k4)
    clear k4
    go_wp2_with fail
    go_ret
    exact ⟨rfl, B4.out⟩
end PriW
end Go.Proofs.YtfdpelokiljigaaDoor
/- The walk of PrinterValid. Conditions: the reserved words and the three signs lie as laid; texts of at most 10^8 bytes. -/
namespace Go.Proofs.YtfdpelokiljigaaDoor
open Go Go.RowKit
namespace PriX
open Kit LexM TermM TermI TermU LexP ParM ParK ParV ParP ParQ PriM PriA PriB PriC PriD PriE PriF PriK PriN PriR PriS PriAx PriT PriU
theorem ok_vl {x : Rl} (h : ParVd.RlOk x) : vlB x = true := by
  have at1 : ∀ t, ParVd.AtOk t → atB t = true := fun t h => by
    unfold atB
    rw [Bool.and_eq_true]
    exact ⟨h.2, h.1⟩
  unfold vlB
  rw [Bool.and_eq_true, Bool.and_eq_true, decide_eq_true_eq, List.all_eq_true]
  exact ⟨h.2.1, at1 _ h.1, fun y hy => at1 _ (h.2.2 y hy)⟩
theorem read_valid {s : List UInt8} {x : Rl} {r : List GTok} (h : wholeF ruleF s = .good x r) : vlB x = true := by
  obtain ⟨h0, r', h1, _⟩ := ParLn.whole_good h
  exact ok_vl (ParVd.rule_ok h1 (ParVd.lex_tk h0))
theorem good_iff {r x : Rl} {q : List GTok} (h : wholeF ruleF (ruleX r) = .good x q) : vlB r = true ↔ x.1 = r.1 ∧ x.2 = r.2 := by
  constructor
  · intro hv
    have := rule_back r hv
    rw [h] at this
    injection this with this _
    subst this
    exact ⟨rfl, rfl⟩
  · rintro ⟨e1, e2⟩
    have : x = r := Prod.ext e1 e2
    rw [← this]
    exact read_valid h
theorem bad_no {r : Rl} {a e : Int} (h : wholeF ruleF (ruleX r) = .bad a e) : vlB r = false ∧ e ≠ 0 := by
  constructor
  · cases hv : vlB r with
    | false => rfl
    | true =>
      have := rule_back r hv
      rw [h] at this
      cases this
  · have := ParN.nz_whole ruleF (fun ts => ParN.nz_rule ts) _ a e h
    omega
set_option maxRecDepth 100000 in
set_option maxHeartbeats 6400000 in
theorem valids (r : Rl) (w : World) (sa sl : Value) (hw : LexE.Wd w) (hw2 : TermT.Wd w) (hs : r.1.nm.size ≤ maxLen) (ha : SlIn (· < w.heap.size) w r.1.args sa) (hl : LIn (· < w.heap.size) w r.2 sl) (hz : Sm r) (hx : (ruleX r).length ≤ 20000000) :
    Calls Tryd.prog 8 #[.agg #[.string r.1.nm, sa, sl]] w fun e w' => e = .returned (.bool true) ∧ Below w.heap.size w w' := by
  have HA := Lib.hid awake_any
  have HW := Lib.hid hw
  have HW2 := Lib.hid hw2
  clear hw hw2
  obtain ⟨p, c, rfl⟩ := ha.form
  obtain ⟨p', c', rfl⟩ := hl.form
  obtain ⟨W1, hW1⟩ : ∃ W1, W1 = w.alloc (.cells #[.string r.1.nm, .slice p r.1.args.length c, .slice p' r.2.length c'] 27) := ⟨_, rfl⟩
  have G1 : Gr w W1 := by rw [hW1]; exact Gr.alloc _ _
  have H1 : Hid (Has W1 w.heap.size #[.string r.1.nm, .slice p r.1.args.length c, .slice p' r.2.length c']) := Lib.hid (by rw [hW1]; exact Has.new w _ _)
  have kp : ∀ {w' : World}, Below W1.heap.size W1 w' → Below w.heap.size w w' := fun k => next0 G1.1 k
  have FW := Lib.hid (few_any r w.heap.size W1 _ _ G1.size (ha.gr G1 (Nat.le_refl _)) (hl.gr G1 (Nat.le_refl _)))
  have KR1 := Lib.hid (fun (w' : World) (k : Below W1.heap.size W1 w') => rule_any r w.heap.size w' _ _ (HW2.out.below (kp k) HW2.out.1) (kp k).size (ha.deep (kp k) (Nat.le_refl _)) (hl.keep fun b o hb => (kp k).cell (p := ⟨b, o, none⟩) hb) hz)
  have VA := Lib.hid (fun (w' : World) (k : Below W1.heap.size W1 w') => (valid_any r w.heap.size w' _ _ (kp k).size hs (ha.deep (kp k) (Nat.le_refl _)) (hl.keep fun b o hb => (kp k).cell (p := ⟨b, o, none⟩) hb)).mono fun _ _ h => (And.intro h.1 h.2.1 : _ ∧ Below w'.heap.size w' _))
  have CR := Lib.hid (fun (w' : World) (k : Below W1.heap.size W1 w') => ParY.crule_any (bs (ruleX r)) w' (HW.out.below (kp k) HW.out.1) (by rw [bs_size]; omega))
  have AH := Lib.hid (fun (w' : World) (k : Below W1.heap.size W1 w') => (And.intro ((ha.deep (kp k) (Nat.le_refl _)).weaken fun b hb => Nat.lt_of_lt_of_le hb (kp k).size) ((hl.keep fun b o hb => (kp k).cell (p := ⟨b, o, none⟩) hb).wide fun b hb => Nat.lt_of_lt_of_le hb (kp k).size) : SlIn (· < w'.heap.size) w' r.1.args _ ∧ LIn (· < w'.heap.size) w' r.2 _))
  have AW := Lib.hid (fun (w' : World) (k : Below W1.heap.size W1 w') => HA.out w' (HW.out.below (kp k) HW.out.1) (HW2.out.below (kp k) HW2.out.1))
  have FE := Lib.hid (fun (h : vlB r = true) (w' : World) => feed_no (bs (ruleX r)) w' (by rw [bs_size]; omega) (fun k hk => feed_rule h k hk))
  have e1 : (bs (ruleX r)).data.toList = ruleX r := bs_list _
  rw [e1] at CR
  have GF := Lib.hid (fun x q h => good_iff (r := r) (x := x) (q := q) h)
  have BF := Lib.hid (fun a e h => bad_no (r := r) (a := a) (e := e) h)
  have KP := Lib.hid (fun (w' : World) (k : Below W1.heap.size W1 w') => kp k)
  obtain ⟨t, l⟩ := r
  dsimp only at *
  clear ha hl hz hs hx G1 kp e1
  generalize wholeF ruleF (ruleX (t, l)) = O at *
  generalize bs (ruleX (t, l)) = TX at *
  generalize vlB (t, l) = z at *
  have EQ := Lib.hid (fun (x : Rl) (h : z = true ↔ x.1 = t ∧ x.2 = l) (w' : World) (k : Below W1.heap.size W1 w') (v v' : Value) (h1 : SlIn (· < w'.heap.size) w' x.1.args v) (h2 : LIn (· < w'.heap.size) w' x.2 v') => rule_eq x.1 t x.2 l z h w'.heap.size w' v _ v' _ (Nat.le_refl _) h1 (AH.out w' k).1 h2 (AH.out w' k).2)
  generalize t.nm = tn at *
  generalize t.args.length = ta at *
  generalize l.length = n at *
  go_enter Tryd.func8, Tryd.ntmps8
  go_upto_region 1 with fail
  rw [← hW1]
  clear hW1 AH
  obtain ⟨x1, x2, x3⟩ := three H1.out
  go_wp2_with fail
  refine FW.out.mono ?_
  rintro e w2 ⟨b2, rfl, g2⟩
  have B2 := Lib.hid g2.1
  clear g2 FW x1 x2 x3
  cases b2
  · go_wp2_with fail
    refine (AW.out w2 B2.out).mono ?_
    rintro e w3 ⟨rfl, k3⟩
    have B3 := Lib.hid (KP.out _ (next0 B2.out k3))
    clear k3
    go_wp2_with fail
    go_ret
    exact ⟨rfl, B3.out⟩
  · obtain ⟨x1, x2, x3⟩ := three (H1.out.step0 B2.out)
    go_wp2_with fail
    refine (KR1.out w2 B2.out).mono ?_
    rintro e w3 ⟨rfl, k3⟩
    have B3 := Lib.hid (next0 B2.out k3)
    clear k3 KR1 B2 x1 x2 x3
    go_wp2_with fail
    refine (CR.out w3 B3.out).mono ?_
    rintro e w4 (⟨x, p4, c4, q4, d4, hO, rfl, hK, k4⟩ | ⟨a, er, hO, rfl, k4⟩)
    · have B4 := Lib.hid (next0 B3.out k4)
      have HZ := Lib.hid (GF.out x [] hO)
      have KX := Lib.hid (KR.wide hK (ok' := (· < w4.heap.size)) (fun b hb => hb.2))
      have E4 := Lib.hid (fun (w' : World) (k : Below w4.heap.size w4 w') => EQ.out x HZ.out w' (next0 B4.out k) _ _ ((KX.out.1.deep k (Nat.le_refl _)).weaken fun b hb => Nat.lt_of_lt_of_le hb k.size) ((KX.out.2.2.keep fun b o hb => k.cell (p := ⟨b, o, none⟩) hb).wide fun b hb => Nat.lt_of_lt_of_le hb k.size))
      clear hO hK k4 CR GF BF KX HZ EQ B3
      dsimp only at E4
      generalize x.1.nm = xn at *
      generalize x.1.args.length = xa at *
      generalize x.2.length = xb at *
      go_upto_region 5 with fail
      obtain ⟨W5, hW5⟩ : ∃ W5, W5 = w4.alloc (.cells #[.string xn, .slice p4 xa c4, .slice q4 xb d4] 27) := ⟨_, rfl⟩
      rw [← hW5]
      have k5 : Below w4.heap.size w4 W5 := by rw [hW5]; exact below_alloc _ _
      have H5 : Has W5 w4.heap.size #[.string xn, .slice p4 xa c4, .slice q4 xb d4] := by rw [hW5]; exact Has.new w4 _ _
      have B5 := Lib.hid (next0 B4.out k5)
      have C5 := Lib.hid (E4.out W5 k5)
      obtain ⟨y1, y2, y3⟩ := three H5
      obtain ⟨x1, x2, x3⟩ := three (H1.out.step0 B5.out)
      clear hW5 k5 H5 E4 B4
      go_wp2_with fail
      refine C5.out.mono ?_
      rintro e w6 ⟨rfl, g6⟩
      have B6 := Lib.hid (next0 B5.out g6.1)
      clear g6 C5 B5 x1 x2 x3 y1 y2 y3
      obtain ⟨x1, x2, x3⟩ := three (H1.out.step0 B6.out)
      go_wp2_with fail
      refine (VA.out w6 B6.out).mono ?_
      rintro e w7 ⟨rfl, k7⟩
      have B7 := Lib.hid (next0 B6.out k7)
      clear k7 B6 x1 x2 x3
      obtain ⟨x1, x2, x3⟩ := three (H1.out.step0 B7.out)
      cases z
      · go_wp2_with fail
        refine (VA.out w7 B7.out).mono ?_
        rintro e w8 ⟨rfl, k8⟩
        have B8 := Lib.hid (next0 B7.out k8)
        clear k8 x1 x2 x3
        go_wp2_with fail
        refine (AW.out w8 B8.out).mono ?_
        rintro e w9 ⟨rfl, k9⟩
        have B9 := Lib.hid (KP.out _ (next0 B8.out k9))
        clear k9
        go_wp2_with fail
        go_ret
        exact ⟨rfl, B9.out⟩
      · have FF := Lib.hid (FE.out rfl w7)
        go_wp2_with fail
        refine FF.out.mono ?_
        rintro e w' ⟨rfl, rfl⟩
        go_wp2_with fail
        refine (VA.out w7 B7.out).mono ?_
        rintro e w8 ⟨rfl, k8⟩
        have B8 := Lib.hid (next0 B7.out k8)
        clear k8 x1 x2 x3
        go_wp2_with fail
        refine (AW.out w8 B8.out).mono ?_
        rintro e w9 ⟨rfl, k9⟩
        have B9 := Lib.hid (KP.out _ (next0 B8.out k9))
        clear k9
        go_wp2_with fail
        go_ret
        exact ⟨rfl, B9.out⟩
    · have B4 := Lib.hid (next0 B3.out k4)
      obtain ⟨hz0, he0⟩ := BF.out a er hO
      subst hz0
      have hE : (er == 0) = false := by rw [beq_eq_false_iff_ne]; exact he0
      clear hO k4 CR GF BF EQ B3 he0
      go_upto_region 5 with fail
      obtain ⟨W5, hW5⟩ : ∃ W5, W5 = w4.alloc (.cells #[.string ⟨#[]⟩, .slice none 0 0, .slice none 0 0] 27) := ⟨_, rfl⟩
      rw [← hW5]
      have k5 : Below w4.heap.size w4 W5 := by rw [hW5]; exact below_alloc _ _
      have B5 := Lib.hid (next0 B4.out k5)
      obtain ⟨x1, x2, x3⟩ := three (H1.out.step0 B5.out)
      clear hW5 k5 B4
      go_wp2_with fail
      refine (VA.out W5 B5.out).mono ?_
      rintro e w7 ⟨rfl, k7⟩
      have B7 := Lib.hid (next0 B5.out k7)
      clear k7 B5 x1 x2 x3
      obtain ⟨x1, x2, x3⟩ := three (H1.out.step0 B7.out)
      go_wp2_with fail
      refine (VA.out w7 B7.out).mono ?_
      rintro e w8 ⟨rfl, k8⟩
      have B8 := Lib.hid (next0 B7.out k8)
      clear k8 x1 x2 x3
      go_wp2_with fail
      refine (AW.out w8 B8.out).mono ?_
      rintro e w9 ⟨rfl, k9⟩
      have B9 := Lib.hid (KP.out _ (next0 B8.out k9))
      clear k9
      go_wp2_with fail
      go_ret
      exact ⟨rfl, B9.out⟩
end PriX
end Go.Proofs.YtfdpelokiljigaaDoor
