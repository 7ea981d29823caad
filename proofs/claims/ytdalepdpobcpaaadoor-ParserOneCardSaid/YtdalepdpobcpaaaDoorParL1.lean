/- The walk of ParserOne. Condition: the reserved words lie as laid. -/
import Derived.Test.YtdalepdpobcpaaaDoorParAx
import Derived.Test.YtdalepdpobcpaaaDoorParLn
import Derived.Deep.RegionHeld3
import Derived.Deep.RegionWith
import Derived.Deep.DeepCutAuto
import Derived.BigQuiet
namespace Go.Proofs.YtdalepdpobcpaaaDoor
open Go Go.RowKit
namespace ParL1
open Kit LexM TermM TermI TermU LexE LexF LexG LexP ParM ParA ParB ParC ParD ParK ParE ParF ParG ParH ParI ParW ParV ParX ParX2 ParX3 ParY ParN ParP ParQ ParAx
set_option maxRecDepth 100000 in
set_option maxHeartbeats 1600000 in
theorem one_good (s : ByteArray) (w : World) (hw : Wd w) (hs : ¬ 2000 < s.size) (hg : ∃ x, wholeF ruleF s.data.toList = .good x []) : Calls Tryd.prog 8 #[.string s] w fun e w' => e = .returned (.bool true) ∧ Below w.heap.size w w' := by
  have HA := Lib.hid awake_any
  have hs1 : ¬ (2000 : Int) < (s.size : Int) := by omega
  have hsz : s.size ≤ 140737488355328 := by omega
  have HG := Lib.hid hg
  clear hg
  have H1 := Lib.hid (crule_any s w hw hsz)
  have ON := Lib.hid (one_of s.data.toList)
  have N1 := Lib.hid (nz_whole ruleF nz_rule s.data.toList)
  have N2 := Lib.hid (nz_whole (descF 129 []) (fun ts => nz_desc 129 [] ts rfl (by decide)) s.data.toList)
  have H2 := Lib.hid (fun w1 (h : Wd w1) => parse_any s w1 h hsz)
  generalize wholeF ruleF s.data.toList = O1 at *
  generalize wholeF (descF 129 []) s.data.toList = O2 at *
  go_enter Tryd.func8, Tryd.ntmps8
  go_wp2_with fail
  refine H1.out.mono ?_
  rintro e w1 (⟨x, p, c, q, d, hO, rfl, hI, hB⟩ | ⟨a, er, hO, rfl, hB⟩)
  · subst hO
    have hO2 := (ON.out x).1 rfl
    subst hO2
    have B1 := Lib.hid hB
    have I1 := Lib.hid hI
    clear hB hI H1 N1 N2 ON
    go_upto_region 4 with fail
    obtain ⟨W2, hW2⟩ : ∃ W2, W2 = w1.alloc (.cells #[.string x.1.nm, .slice p x.1.args.length c, .slice q x.2.length d] 34) := ⟨_, rfl⟩
    have D2 : Below w1.heap.size w1 W2 := by rw [hW2]; exact below_alloc w1 _
    have B2 := Lib.hid (next0 B1.out D2)
    have V2 : Has W2 w1.heap.size #[.string x.1.nm, .slice p x.1.args.length c, .slice q x.2.length d] := by rw [hW2]; exact Has.new _ _ _
    rw [← hW2]
    clear hW2
    have H3 := Lib.hid (H2.out W2 (hw.below B2.out hw.1))
    go_wp2_with fail
    refine H3.out.mono ?_
    rintro e w3 (⟨l, pl, cl, hO, rfl, hI, hB⟩ | ⟨a, er, hO, rfl, hB⟩)
    case inr => cases hO
    injection hO with hO _
    subst hO
    obtain ⟨x1, x2, x3, x4, x5, x6, x7⟩ := has3 (V2.step0 hB)
    have I3 := KR.wide (ok' := (· < w3.heap.size)) (KR.keep (w' := w3) I1.out (fun b o hb => (next0 D2 hB).cell (p := ⟨b, o, none⟩) hb.2)) (fun b hb => by have h1 : b < w1.heap.size := hb.2; have h2 := (next0 D2 hB).size; show b < w3.heap.size; omega)
    have L3 := hI.wide (ok' := (· < w3.heap.size)) (fun b hb => hb.2)
    obtain ⟨i1, i2, i3⟩ := I3
    obtain ⟨pp, cc, e1, _, _, hr⟩ := RIn.row L3
    cases e1
    obtain ⟨y, b, o, q', d', u, eu, h0, rfl, hb, c1, c2, c3, hs', hl', _⟩ := hr 0 (by simp)
    cases h0
    simp only [Nat.zero_mul, Nat.add_zero] at c1 c2 c3
    have B3 := Lib.hid (next0 B2.out hB)
    have KE := Lib.hid (fun w4 (g : Below w3.heap.size w3 w4) => rule_eq x.1 x.1 x.2 x.2 true (by simp) w3.heap.size w4 _ _ _ _ g.size (i1.deep g (Nat.le_refl _)) (hs'.deep g (Nat.le_refl _)) (i3.keep fun _ _ hb => g.cell (p := ⟨_, _, none⟩) hb) (hl'.keep fun _ _ hb => g.cell (p := ⟨_, _, none⟩) hb))
    have HW := Lib.hid (hw.below B3.out hw.1)
    have KA := Lib.hid (fun w4 (g : Below w3.heap.size w3 w4) => HA.out w4 (HW.out.below g (Nat.lt_of_lt_of_le hw.1 B3.out.size)))
    have hgb : b < w3.heap.size := hb
    clear i1 i2 i3 hr hs' hl' L3 hI hB D2 V2 H3 H2 I1 B1 B2 HA HW hb
    generalize x.1.nm = xn at *
    generalize x.1.args.length = xa at *
    generalize x.2.length = xb at *
    have hgw : w1.heap.size < w3.heap.size := x7
    have Hb : Hid (∀ w', Below w3.heap.size w3 w' → w'.cell? ⟨w1.heap.size, 0, none⟩ = some (.string xn) ∧ w'.cell? ⟨w1.heap.size, 1, none⟩ = some (.slice p xa c) ∧ w'.cell? ⟨w1.heap.size, 2, none⟩ = some (.slice q xb d) ∧ w'.cell? ⟨b, o, none⟩ = some (.string xn) ∧ w'.cell? ⟨b, o + 1, none⟩ = some (.slice q' xa d') ∧ w'.cell? ⟨b, o + 1 + 1, none⟩ = some (.slice u xb eu) ∧ Hid (Below w3.heap.size w3 w')) := Lib.hid (fun w' g => ⟨(g.cell (p := ⟨_, _, none⟩) hgw).trans x1, (g.cell (p := ⟨_, _, none⟩) hgw).trans x2, (g.cell (p := ⟨_, _, none⟩) hgw).trans x3, (g.cell (p := ⟨_, _, none⟩) hgb).trans c1, (g.cell (p := ⟨_, _, none⟩) hgb).trans c2, (g.cell (p := ⟨_, _, none⟩) hgb).trans c3, Lib.hid g⟩)
    go_upto_region 6 with fail
    go_cut [2] (fun s2 wx => s2 = .bool true ∧ Hid (Below w.heap.size w wx))
    case first =>
      clear hs1 hsz hs x1 x2 x3 x4 x5 x6 x7 c1 c2 c3
      have hs0 := Hb.out _ (Below.refl _ w3).drew
      go_region_held3 (fun w' => w'.cell? ⟨w1.heap.size, 0, none⟩ = some (.string xn) ∧ w'.cell? ⟨w1.heap.size, 1, none⟩ = some (.slice p xa c) ∧ w'.cell? ⟨w1.heap.size, 2, none⟩ = some (.slice q xb d) ∧ w'.cell? ⟨b, o, none⟩ = some (.string xn) ∧ w'.cell? ⟨b, o + 1, none⟩ = some (.slice q' xa d') ∧ w'.cell? ⟨b, o + 1 + 1, none⟩ = some (.slice u xb eu) ∧ Hid (Below w3.heap.size w3 w'))
        (first | (with_reducible assumption) | (with_reducible exact ⟨‹_›, ‹_›, ‹_›, ‹_›, ‹_›, ‹_›, ‹_›⟩) | (with_reducible refine Hb.out _ ?_; repeat (first | (with_reducible exact Hid.out (by assumption)) | (with_reducible exact Below.refl _ _) | (with_reducible refine Below.drew ?_))))
        (first | (go_at_call 17; (try go_split_ands); (with_reducible refine (KE.out _ (by repeat (first | (with_reducible exact Hid.out (by assumption)) | (with_reducible exact Below.refl _ _) | (with_reducible refine Below.drew ?_)))).mono ?_); rintro e w4 ⟨rfl, q0⟩; (have qg : Below w3.heap.size w3 w4 := by (refine next0 ?_ q0.1; repeat (first | (with_reducible exact Hid.out (by assumption)) | (with_reducible exact Below.refl _ _) | (with_reducible refine Below.drew ?_)))); clear q0; obtain ⟨z1, z2, z3, z4, z5, z6, z7⟩ := Hb.out _ qg) | (go_at_call 11; (try go_split_ands); (with_reducible refine (KA.out _ (by repeat (first | (with_reducible exact Hid.out (by assumption)) | (with_reducible exact Below.refl _ _) | (with_reducible refine Below.drew ?_)))).mono ?_); rintro e w5 ⟨rfl, q0⟩; (have qa : Below w3.heap.size w3 w5 := by (refine next0 ?_ q0; repeat (first | (with_reducible exact Hid.out (by assumption)) | (with_reducible exact Below.refl _ _) | (with_reducible refine Below.drew ?_)))); clear q0; obtain ⟨y1, y2, y3, y4, y5, y6, y7⟩ := Hb.out _ qa))
      all_goals
        go_wp2_with fail
        go_meet
        exact ⟨rfl, Lib.hid (next0 B3.out qa)⟩
    case rest =>
      obtain ⟨rfl, G3⟩ := hcut
      go_wp2_with fail
      go_ret
      exact ⟨rfl, G3.out⟩
  · exfalso
    obtain ⟨x, hx⟩ := HG.out
    rw [hO] at hx
    cases hx
set_option maxRecDepth 100000 in
set_option maxHeartbeats 1600000 in
theorem one_bad (s : ByteArray) (w : World) (hw : Wd w) (hs : ¬ 2000 < s.size) (hg : ∃ a er, wholeF ruleF s.data.toList = .bad a er) : Calls Tryd.prog 8 #[.string s] w fun e w' => e = .returned (.bool true) ∧ Below w.heap.size w w' := by
  have HA := Lib.hid awake_any
  have hs1 : ¬ (2000 : Int) < (s.size : Int) := by omega
  have hsz : s.size ≤ 140737488355328 := by omega
  have HG := Lib.hid hg
  clear hg
  have H1 := Lib.hid (crule_any s w hw hsz)
  have ON := Lib.hid (one_of s.data.toList)
  have N1 := Lib.hid (nz_whole ruleF nz_rule s.data.toList)
  have N2 := Lib.hid (nz_whole (descF 129 []) (fun ts => nz_desc 129 [] ts rfl (by decide)) s.data.toList)
  have H2 := Lib.hid (fun w1 (h : Wd w1) => parse_any s w1 h hsz)
  generalize wholeF ruleF s.data.toList = O1 at *
  generalize wholeF (descF 129 []) s.data.toList = O2 at *
  go_enter Tryd.func8, Tryd.ntmps8
  go_wp2_with fail
  refine H1.out.mono ?_
  rintro e w1 (⟨x, p, c, q, d, hO, rfl, hI, hB⟩ | ⟨a, er, hO, rfl, hB⟩)
  · exfalso
    obtain ⟨a, er, hx⟩ := HG.out
    rw [hO] at hx
    cases hx
  · have hE := N1.out a er hO
    have B1 := Lib.hid hB
    have NO : Hid (∀ x, O2 ≠ .good [x] []) := Lib.hid (fun x h => by have h2 := (ON.out x).2 h; rw [hO] at h2; cases h2)
    clear hB H1 N1 ON hO
    obtain ⟨W2, hW2⟩ : ∃ W2, W2 = w1.alloc (.cells #[.string ⟨#[]⟩, .slice none 0 0, .slice none 0 0] 34) := ⟨_, rfl⟩
    have D2 : Below w1.heap.size w1 W2 := by rw [hW2]; exact below_alloc w1 _
    have B2 := Lib.hid (next0 B1.out D2)
    have H3 := Lib.hid (H2.out W2 (hw.below B2.out hw.1))
    clear D2 B1 H2
    have tail : ∀ w3 : World, Hid (Below w.heap.size w w3) → Hid (∀ w4, Below w3.heap.size w3 w4 → Calls Tryd.prog 11 #[] w4 fun e w' => e = .returned (.bool true) ∧ Below w4.heap.size w4 w') := fun w3 B3 => Lib.hid (fun w4 g => HA.out w4 ((hw.below B3.out hw.1).below g (Nat.lt_of_lt_of_le hw.1 B3.out.size)))
    have TL := Lib.hid tail
    clear tail HA
    have hE0 : (er == 0) = false := by rw [beq_eq_false_iff_ne]; omega
    clear hE
    go_upto_region 4 with fail
    rw [← hW2]
    clear hW2
    go_wp2_with fail
    refine H3.out.mono ?_
    rintro e w3 (⟨l, pl, cl, hO, rfl, hI, hB⟩ | ⟨a2, e2, hO, rfl, hB⟩)
    · have hln : ¬ l.length = 1 := fun h => by
        match l, h with
        | [y], _ => exact NO.out y hO
      have hl1 : ((l.length : Int) == 1) = false := by rw [beq_eq_false_iff_ne]; omega
      have hl2 : (l.length == 1) = false := by rw [beq_eq_false_iff_ne]; exact hln
      have B3 := Lib.hid (next0 B2.out hB)
      have KA := TL.out w3 B3
      clear hO hI hB H3 B2 TL NO N2 hln HG
      generalize l.length = n at *
      go_upto_region 6 with fail
      go_cut [2] (fun s2 wx => s2 = .bool true ∧ Hid (Below w.heap.size w wx))
      case first =>
        clear hs1 hsz hs hl1 hl2
        have hs0 : Hid (Below w3.heap.size w3 w3.drew) := Lib.hid (Below.refl _ _).drew
        refine wp_region_held_drew (S := (fun w' => Hid (Below w3.heap.size w3 w'))) (by kernel_rfl) hs0 (fun hHeld => ?_)
        refine wpAnyH_take (i := 0) (v := ?_) rfl (by kernel_rfl) (by kernel_rfl) (by kernel_rfl) (fun _ _ _ h => h) (Or.inl ⟨by rfl, ?_⟩) (by assumption) ?_
        rotate_left
        · intro w' hSw; (try dsimp only at hSw); (try simp only [List.getElem_toArray, List.getElem_cons_zero]); go_simp; try with_reducible rfl
        (try simp only [List.getElem_toArray, List.getElem_cons_zero, Act.put, List.setIfInBounds_toArray, List.set_cons_zero, List.set_cons_succ])
        refine wpAnyH_take (i := 1) (v := ?_) rfl (by kernel_rfl) (by kernel_rfl) (by kernel_rfl) (fun _ _ _ h => h) (Or.inl ⟨by rfl, ?_⟩) (by assumption) ?_
        rotate_left
        · intro w' hSw; (try dsimp only at hSw); (try simp only [List.getElem_toArray, List.getElem_cons_zero, List.getElem_cons_succ]); go_simp; try with_reducible rfl
        (try simp only [List.getElem_toArray, List.getElem_cons_zero, List.getElem_cons_succ, Act.put, List.setIfInBounds_toArray, List.set_cons_zero, List.set_cons_succ])
        refine wpAnyH_take (i := 2) (v := ?_) rfl (by kernel_rfl) (by kernel_rfl) (by kernel_rfl) (fun _ _ _ h => h) (Or.inl ⟨by rfl, ?_⟩) (by assumption) ?_
        rotate_left
        · intro w' hSw; (try dsimp only at hSw); (try simp only [List.getElem_toArray, List.getElem_cons_zero, List.getElem_cons_succ]); go_simp; try with_reducible rfl
        (try simp only [List.getElem_toArray, List.getElem_cons_zero, List.getElem_cons_succ, Act.put, List.setIfInBounds_toArray, List.set_cons_zero, List.set_cons_succ])
        refine wpAnyH_take (i := 3) (v := ?_) rfl (by kernel_rfl) (by kernel_rfl) (by kernel_rfl) (fun _ _ _ h => h) (Or.inl ⟨by rfl, ?_⟩) (by assumption) ?_
        rotate_left
        · intro w' hSw; (try dsimp only at hSw); (try simp only [List.getElem_toArray, List.getElem_cons_zero, List.getElem_cons_succ]); go_simp; try with_reducible rfl
        (try simp only [List.getElem_toArray, List.getElem_cons_zero, List.getElem_cons_succ, Act.put, List.setIfInBounds_toArray, List.set_cons_zero, List.set_cons_succ])
        refine wpAnyH_take (i := 4) (v := ?_) rfl (by kernel_rfl) (by kernel_rfl) (by kernel_rfl) (fun _ _ _ h => h) (Or.inl ⟨by rfl, ?_⟩) (by assumption) ?_
        rotate_left
        · intro w' hSw; (try dsimp only at hSw); (try simp only [List.getElem_toArray, List.getElem_cons_zero, List.getElem_cons_succ]); go_simp; try with_reducible rfl
        (try simp only [List.getElem_toArray, List.getElem_cons_zero, List.getElem_cons_succ, Act.put, List.setIfInBounds_toArray, List.set_cons_zero, List.set_cons_succ])
        refine wpAnyH_take (i := 5) (v := ?_) rfl (by kernel_rfl) (by kernel_rfl) (by kernel_rfl) (fun _ _ _ h => h) (Or.inl ⟨by rfl, ?_⟩) (by assumption) ?_
        rotate_left
        · intro w' hSw; (try dsimp only at hSw); (try simp only [List.getElem_toArray, List.getElem_cons_zero, List.getElem_cons_succ]); go_simp; try with_reducible rfl
        (try simp only [List.getElem_toArray, List.getElem_cons_zero, List.getElem_cons_succ, Act.put, List.setIfInBounds_toArray, List.set_cons_zero, List.set_cons_succ])
        refine wpAnyH_take (i := 6) (v := ?_) rfl (by kernel_rfl) (by kernel_rfl) (by kernel_rfl) (fun _ _ _ h => h) (Or.inl ⟨by rfl, ?_⟩) (by assumption) ?_
        rotate_left
        · intro w' hSw; (try dsimp only at hSw); (try simp only [List.getElem_toArray, List.getElem_cons_zero, List.getElem_cons_succ]); go_simp; try with_reducible rfl
        (try simp only [List.getElem_toArray, List.getElem_cons_zero, List.getElem_cons_succ, Act.put, List.setIfInBounds_toArray, List.set_cons_zero, List.set_cons_succ])
        refine wpAnyH_take (i := 7) (v := ?_) rfl (by kernel_rfl) (by kernel_rfl) (by kernel_rfl) (fun _ _ _ h => h) (Or.inl ⟨by rfl, ?_⟩) (by assumption) ?_
        rotate_left
        · intro w' hSw; (try dsimp only at hSw); (try simp only [List.getElem_toArray, List.getElem_cons_zero, List.getElem_cons_succ]); go_simp; try with_reducible rfl
        (try simp only [List.getElem_toArray, List.getElem_cons_zero, List.getElem_cons_succ, Act.put, List.setIfInBounds_toArray, List.set_cons_zero, List.set_cons_succ])
        refine wpAnyH_take (i := 8) (v := undef) rfl (by kernel_rfl) (by kernel_rfl) (by kernel_rfl) (fun _ _ _ h => h) (Or.inr ⟨by rfl, rfl⟩) (by assumption) ?_
        (try simp only [List.getElem_toArray, List.getElem_cons_zero, List.getElem_cons_succ, Act.put, List.setIfInBounds_toArray, List.set_cons_zero, List.set_cons_succ])
        refine wpAnyH_take (i := 9) (v := undef) rfl (by kernel_rfl) (by kernel_rfl) (by kernel_rfl) (fun _ _ _ h => h) (Or.inr ⟨by rfl, rfl⟩) (by assumption) ?_
        (try simp only [List.getElem_toArray, List.getElem_cons_zero, List.getElem_cons_succ, Act.put, List.setIfInBounds_toArray, List.set_cons_zero, List.set_cons_succ])
        first
          | (refine wpAnyH_take (i := 10) (v := undef) rfl (by kernel_rfl) (by kernel_rfl) (by kernel_rfl) (fun _ _ _ h => h) (Or.inr ⟨by rfl, rfl⟩) (by assumption) ?_)
          | (refine wpAnyH_ready (rs := [10]) (by kernel_rfl) (by simp) ?_; refine AllReadyH.cons rfl (fun K hK => ?_) AllReadyH.nil; rw [if_neg (by decide)]; refine hK.out _ _ (by assumption) (fun hHeld => ?_); clear hK K)
        (try simp only [List.getElem_toArray, List.getElem_cons_zero, List.getElem_cons_succ, Act.put, List.setIfInBounds_toArray, List.set_cons_zero, List.set_cons_succ])
        refine wpAnyH_take (i := 11) (v := undef) rfl (by kernel_rfl) (by kernel_rfl) (by kernel_rfl) (fun _ _ _ h => h) (Or.inr ⟨by rfl, rfl⟩) (by assumption) ?_
        (try simp only [List.getElem_toArray, List.getElem_cons_zero, List.getElem_cons_succ, Act.put, List.setIfInBounds_toArray, List.set_cons_zero, List.set_cons_succ])
        first
          | (refine wpAnyH_take (i := 12) (v := undef) rfl (by kernel_rfl) (by kernel_rfl) (by kernel_rfl) (fun _ _ _ h => h) (Or.inr ⟨by rfl, rfl⟩) (by assumption) ?_)
          | (refine wpAnyH_ready (rs := [12]) (by kernel_rfl) (by simp) ?_; refine AllReadyH.cons rfl (fun K hK => ?_) AllReadyH.nil; rw [if_neg (by decide)]; refine hK.out _ _ (by assumption) (fun hHeld => ?_); clear hK K)
        (try simp only [List.getElem_toArray, List.getElem_cons_zero, List.getElem_cons_succ, Act.put, List.setIfInBounds_toArray, List.set_cons_zero, List.set_cons_succ])
        refine wpAnyH_take (i := 13) (v := ?_) rfl (by kernel_rfl) (by kernel_rfl) (by kernel_rfl) (fun _ _ _ h => h) (Or.inl ⟨by rfl, ?_⟩) (by assumption) ?_
        rotate_left
        · intro w' hSw; (try dsimp only at hSw); (try simp only [List.getElem_toArray, List.getElem_cons_zero, List.getElem_cons_succ]); go_simp; try with_reducible rfl
        (try simp only [List.getElem_toArray, List.getElem_cons_zero, List.getElem_cons_succ, Act.put, List.setIfInBounds_toArray, List.set_cons_zero, List.set_cons_succ])
        refine wpAnyH_take (i := 14) (v := ?_) rfl (by kernel_rfl) (by kernel_rfl) (by kernel_rfl) (fun _ _ _ h => h) (Or.inl ⟨by rfl, ?_⟩) (by assumption) ?_
        rotate_left
        · intro w' hSw; (try dsimp only at hSw); (try simp only [List.getElem_toArray, List.getElem_cons_zero, List.getElem_cons_succ]); go_simp; try with_reducible rfl
        (try simp only [List.getElem_toArray, List.getElem_cons_zero, List.getElem_cons_succ, Act.put, List.setIfInBounds_toArray, List.set_cons_zero, List.set_cons_succ])
        refine wpAnyH_take (i := 15) (v := ?_) rfl (by kernel_rfl) (by kernel_rfl) (by kernel_rfl) (fun _ _ _ h => h) (Or.inl ⟨by rfl, ?_⟩) (by assumption) ?_
        rotate_left
        · intro w' hSw; (try dsimp only at hSw); (try simp only [List.getElem_toArray, List.getElem_cons_zero, List.getElem_cons_succ]); go_simp; try with_reducible rfl
        (try simp only [List.getElem_toArray, List.getElem_cons_zero, List.getElem_cons_succ, Act.put, List.setIfInBounds_toArray, List.set_cons_zero, List.set_cons_succ])
        refine wpAnyH_ready (rs := [16]) (by kernel_rfl) (by simp) ?_
        refine AllReadyH.cons rfl (fun K hK => ?_) AllReadyH.nil
        go_simp
        (try go_split_ands)
        (with_reducible refine (KA.out _ (by repeat (first | (with_reducible exact Hid.out (by assumption)) | (with_reducible exact Below.refl _ _) | (with_reducible refine Below.drew ?_)))).mono ?_)
        rintro e w5 ⟨rfl, q0⟩
        have qa : Below w3.heap.size w3 w5 := by (refine next0 ?_ q0; repeat (first | (with_reducible exact Hid.out (by assumption)) | (with_reducible exact Below.refl _ _) | (with_reducible refine Below.drew ?_)))
        clear q0
        refine hK.out _ _ (Lib.hid qa) (fun hHeld => ?_)
        clear hK K
        (try simp only [List.getElem_toArray, List.getElem_cons_zero, List.getElem_cons_succ, Act.put, List.setIfInBounds_toArray, List.set_cons_zero, List.set_cons_succ])
        refine wpAnyH_take (i := 17) (v := ?_) rfl (by kernel_rfl) (by kernel_rfl) (by kernel_rfl) (fun _ _ _ h => h) (Or.inl ⟨by rfl, ?_⟩) (by assumption) ?_
        rotate_left
        · intro w' hSw; (try dsimp only at hSw); (try simp only [List.getElem_toArray, List.getElem_cons_zero, List.getElem_cons_succ]); go_simp; try with_reducible rfl
        (try simp only [List.getElem_toArray, List.getElem_cons_zero, List.getElem_cons_succ, Act.put, List.setIfInBounds_toArray, List.set_cons_zero, List.set_cons_succ])
        refine wpAnyH_take (i := 18) (v := ?_) rfl (by kernel_rfl) (by kernel_rfl) (by kernel_rfl) (fun _ _ _ h => h) (Or.inl ⟨by rfl, ?_⟩) (by assumption) ?_
        rotate_left
        · intro w' hSw; (try dsimp only at hSw); (try simp only [List.getElem_toArray, List.getElem_cons_zero, List.getElem_cons_succ]); go_simp; try with_reducible rfl
        (try simp only [List.getElem_toArray, List.getElem_cons_zero, List.getElem_cons_succ, Act.put, List.setIfInBounds_toArray, List.set_cons_zero, List.set_cons_succ])
        refine wpAnyH_done (by kernel_rfl) ?_ _
        go_wp2_with fail
        go_meet
        exact ⟨rfl, Lib.hid (next0 B3.out qa)⟩
      case rest =>
        obtain ⟨rfl, G3⟩ := hcut
        go_wp2_with fail
        go_ret
        exact ⟨rfl, G3.out⟩
    · obtain ⟨h1, h2⟩ := N2.out a2 e2 hO
      have hl1 : (e2 == 0) = false := by rw [beq_eq_false_iff_ne]; omega
      have B3 := Lib.hid (next0 B2.out hB)
      have KA := TL.out w3 B3
      clear hO hB H3 B2 TL NO N2 h1 h2 HG
      go_upto_region 6 with fail
      go_cut [2] (fun s2 wx => s2 = .bool true ∧ Hid (Below w.heap.size w wx))
      case first =>
        clear hs1 hsz hs hl1
        have hs0 : Hid (Below w3.heap.size w3 w3.drew) := Lib.hid (Below.refl _ _).drew
        refine wp_region_held_drew (S := (fun w' => Hid (Below w3.heap.size w3 w'))) (by kernel_rfl) hs0 (fun hHeld => ?_)
        refine wpAnyH_take (i := 0) (v := ?_) rfl (by kernel_rfl) (by kernel_rfl) (by kernel_rfl) (fun _ _ _ h => h) (Or.inl ⟨by rfl, ?_⟩) (by assumption) ?_
        rotate_left
        · intro w' hSw; (try dsimp only at hSw); (try simp only [List.getElem_toArray, List.getElem_cons_zero]); go_simp; try with_reducible rfl
        (try simp only [List.getElem_toArray, List.getElem_cons_zero, Act.put, List.setIfInBounds_toArray, List.set_cons_zero, List.set_cons_succ])
        refine wpAnyH_take (i := 1) (v := ?_) rfl (by kernel_rfl) (by kernel_rfl) (by kernel_rfl) (fun _ _ _ h => h) (Or.inl ⟨by rfl, ?_⟩) (by assumption) ?_
        rotate_left
        · intro w' hSw; (try dsimp only at hSw); (try simp only [List.getElem_toArray, List.getElem_cons_zero, List.getElem_cons_succ]); go_simp; try with_reducible rfl
        (try simp only [List.getElem_toArray, List.getElem_cons_zero, List.getElem_cons_succ, Act.put, List.setIfInBounds_toArray, List.set_cons_zero, List.set_cons_succ])
        refine wpAnyH_take (i := 2) (v := ?_) rfl (by kernel_rfl) (by kernel_rfl) (by kernel_rfl) (fun _ _ _ h => h) (Or.inl ⟨by rfl, ?_⟩) (by assumption) ?_
        rotate_left
        · intro w' hSw; (try dsimp only at hSw); (try simp only [List.getElem_toArray, List.getElem_cons_zero, List.getElem_cons_succ]); go_simp; try with_reducible rfl
        (try simp only [List.getElem_toArray, List.getElem_cons_zero, List.getElem_cons_succ, Act.put, List.setIfInBounds_toArray, List.set_cons_zero, List.set_cons_succ])
        refine wpAnyH_take (i := 3) (v := ?_) rfl (by kernel_rfl) (by kernel_rfl) (by kernel_rfl) (fun _ _ _ h => h) (Or.inl ⟨by rfl, ?_⟩) (by assumption) ?_
        rotate_left
        · intro w' hSw; (try dsimp only at hSw); (try simp only [List.getElem_toArray, List.getElem_cons_zero, List.getElem_cons_succ]); go_simp; try with_reducible rfl
        (try simp only [List.getElem_toArray, List.getElem_cons_zero, List.getElem_cons_succ, Act.put, List.setIfInBounds_toArray, List.set_cons_zero, List.set_cons_succ])
        refine wpAnyH_take (i := 4) (v := ?_) rfl (by kernel_rfl) (by kernel_rfl) (by kernel_rfl) (fun _ _ _ h => h) (Or.inl ⟨by rfl, ?_⟩) (by assumption) ?_
        rotate_left
        · intro w' hSw; (try dsimp only at hSw); (try simp only [List.getElem_toArray, List.getElem_cons_zero, List.getElem_cons_succ]); go_simp; try with_reducible rfl
        (try simp only [List.getElem_toArray, List.getElem_cons_zero, List.getElem_cons_succ, Act.put, List.setIfInBounds_toArray, List.set_cons_zero, List.set_cons_succ])
        refine wpAnyH_take (i := 5) (v := ?_) rfl (by kernel_rfl) (by kernel_rfl) (by kernel_rfl) (fun _ _ _ h => h) (Or.inl ⟨by rfl, ?_⟩) (by assumption) ?_
        rotate_left
        · intro w' hSw; (try dsimp only at hSw); (try simp only [List.getElem_toArray, List.getElem_cons_zero, List.getElem_cons_succ]); go_simp; try with_reducible rfl
        (try simp only [List.getElem_toArray, List.getElem_cons_zero, List.getElem_cons_succ, Act.put, List.setIfInBounds_toArray, List.set_cons_zero, List.set_cons_succ])
        refine wpAnyH_take (i := 6) (v := ?_) rfl (by kernel_rfl) (by kernel_rfl) (by kernel_rfl) (fun _ _ _ h => h) (Or.inl ⟨by rfl, ?_⟩) (by assumption) ?_
        rotate_left
        · intro w' hSw; (try dsimp only at hSw); (try simp only [List.getElem_toArray, List.getElem_cons_zero, List.getElem_cons_succ]); go_simp; try with_reducible rfl
        (try simp only [List.getElem_toArray, List.getElem_cons_zero, List.getElem_cons_succ, Act.put, List.setIfInBounds_toArray, List.set_cons_zero, List.set_cons_succ])
        refine wpAnyH_take (i := 7) (v := ?_) rfl (by kernel_rfl) (by kernel_rfl) (by kernel_rfl) (fun _ _ _ h => h) (Or.inl ⟨by rfl, ?_⟩) (by assumption) ?_
        rotate_left
        · intro w' hSw; (try dsimp only at hSw); (try simp only [List.getElem_toArray, List.getElem_cons_zero, List.getElem_cons_succ]); go_simp; try with_reducible rfl
        (try simp only [List.getElem_toArray, List.getElem_cons_zero, List.getElem_cons_succ, Act.put, List.setIfInBounds_toArray, List.set_cons_zero, List.set_cons_succ])
        refine wpAnyH_take (i := 8) (v := undef) rfl (by kernel_rfl) (by kernel_rfl) (by kernel_rfl) (fun _ _ _ h => h) (Or.inr ⟨by rfl, rfl⟩) (by assumption) ?_
        (try simp only [List.getElem_toArray, List.getElem_cons_zero, List.getElem_cons_succ, Act.put, List.setIfInBounds_toArray, List.set_cons_zero, List.set_cons_succ])
        refine wpAnyH_take (i := 9) (v := undef) rfl (by kernel_rfl) (by kernel_rfl) (by kernel_rfl) (fun _ _ _ h => h) (Or.inr ⟨by rfl, rfl⟩) (by assumption) ?_
        (try simp only [List.getElem_toArray, List.getElem_cons_zero, List.getElem_cons_succ, Act.put, List.setIfInBounds_toArray, List.set_cons_zero, List.set_cons_succ])
        first
          | (refine wpAnyH_take (i := 10) (v := undef) rfl (by kernel_rfl) (by kernel_rfl) (by kernel_rfl) (fun _ _ _ h => h) (Or.inr ⟨by rfl, rfl⟩) (by assumption) ?_)
          | (refine wpAnyH_ready (rs := [10]) (by kernel_rfl) (by simp) ?_; refine AllReadyH.cons rfl (fun K hK => ?_) AllReadyH.nil; rw [if_neg (by decide)]; refine hK.out _ _ (by assumption) (fun hHeld => ?_); clear hK K)
        (try simp only [List.getElem_toArray, List.getElem_cons_zero, List.getElem_cons_succ, Act.put, List.setIfInBounds_toArray, List.set_cons_zero, List.set_cons_succ])
        refine wpAnyH_take (i := 11) (v := undef) rfl (by kernel_rfl) (by kernel_rfl) (by kernel_rfl) (fun _ _ _ h => h) (Or.inr ⟨by rfl, rfl⟩) (by assumption) ?_
        (try simp only [List.getElem_toArray, List.getElem_cons_zero, List.getElem_cons_succ, Act.put, List.setIfInBounds_toArray, List.set_cons_zero, List.set_cons_succ])
        first
          | (refine wpAnyH_take (i := 12) (v := undef) rfl (by kernel_rfl) (by kernel_rfl) (by kernel_rfl) (fun _ _ _ h => h) (Or.inr ⟨by rfl, rfl⟩) (by assumption) ?_)
          | (refine wpAnyH_ready (rs := [12]) (by kernel_rfl) (by simp) ?_; refine AllReadyH.cons rfl (fun K hK => ?_) AllReadyH.nil; rw [if_neg (by decide)]; refine hK.out _ _ (by assumption) (fun hHeld => ?_); clear hK K)
        (try simp only [List.getElem_toArray, List.getElem_cons_zero, List.getElem_cons_succ, Act.put, List.setIfInBounds_toArray, List.set_cons_zero, List.set_cons_succ])
        refine wpAnyH_take (i := 13) (v := ?_) rfl (by kernel_rfl) (by kernel_rfl) (by kernel_rfl) (fun _ _ _ h => h) (Or.inl ⟨by rfl, ?_⟩) (by assumption) ?_
        rotate_left
        · intro w' hSw; (try dsimp only at hSw); (try simp only [List.getElem_toArray, List.getElem_cons_zero, List.getElem_cons_succ]); go_simp; try with_reducible rfl
        (try simp only [List.getElem_toArray, List.getElem_cons_zero, List.getElem_cons_succ, Act.put, List.setIfInBounds_toArray, List.set_cons_zero, List.set_cons_succ])
        refine wpAnyH_take (i := 14) (v := ?_) rfl (by kernel_rfl) (by kernel_rfl) (by kernel_rfl) (fun _ _ _ h => h) (Or.inl ⟨by rfl, ?_⟩) (by assumption) ?_
        rotate_left
        · intro w' hSw; (try dsimp only at hSw); (try simp only [List.getElem_toArray, List.getElem_cons_zero, List.getElem_cons_succ]); go_simp; try with_reducible rfl
        (try simp only [List.getElem_toArray, List.getElem_cons_zero, List.getElem_cons_succ, Act.put, List.setIfInBounds_toArray, List.set_cons_zero, List.set_cons_succ])
        refine wpAnyH_take (i := 15) (v := ?_) rfl (by kernel_rfl) (by kernel_rfl) (by kernel_rfl) (fun _ _ _ h => h) (Or.inl ⟨by rfl, ?_⟩) (by assumption) ?_
        rotate_left
        · intro w' hSw; (try dsimp only at hSw); (try simp only [List.getElem_toArray, List.getElem_cons_zero, List.getElem_cons_succ]); go_simp; try with_reducible rfl
        (try simp only [List.getElem_toArray, List.getElem_cons_zero, List.getElem_cons_succ, Act.put, List.setIfInBounds_toArray, List.set_cons_zero, List.set_cons_succ])
        refine wpAnyH_ready (rs := [16]) (by kernel_rfl) (by simp) ?_
        refine AllReadyH.cons rfl (fun K hK => ?_) AllReadyH.nil
        go_simp
        (try go_split_ands)
        (with_reducible refine (KA.out _ (by repeat (first | (with_reducible exact Hid.out (by assumption)) | (with_reducible exact Below.refl _ _) | (with_reducible refine Below.drew ?_)))).mono ?_)
        rintro e w5 ⟨rfl, q0⟩
        have qa : Below w3.heap.size w3 w5 := by (refine next0 ?_ q0; repeat (first | (with_reducible exact Hid.out (by assumption)) | (with_reducible exact Below.refl _ _) | (with_reducible refine Below.drew ?_)))
        clear q0
        refine hK.out _ _ (Lib.hid qa) (fun hHeld => ?_)
        clear hK K
        (try simp only [List.getElem_toArray, List.getElem_cons_zero, List.getElem_cons_succ, Act.put, List.setIfInBounds_toArray, List.set_cons_zero, List.set_cons_succ])
        refine wpAnyH_take (i := 17) (v := ?_) rfl (by kernel_rfl) (by kernel_rfl) (by kernel_rfl) (fun _ _ _ h => h) (Or.inl ⟨by rfl, ?_⟩) (by assumption) ?_
        rotate_left
        · intro w' hSw; (try dsimp only at hSw); (try simp only [List.getElem_toArray, List.getElem_cons_zero, List.getElem_cons_succ]); go_simp; try with_reducible rfl
        (try simp only [List.getElem_toArray, List.getElem_cons_zero, List.getElem_cons_succ, Act.put, List.setIfInBounds_toArray, List.set_cons_zero, List.set_cons_succ])
        refine wpAnyH_take (i := 18) (v := ?_) rfl (by kernel_rfl) (by kernel_rfl) (by kernel_rfl) (fun _ _ _ h => h) (Or.inl ⟨by rfl, ?_⟩) (by assumption) ?_
        rotate_left
        · intro w' hSw; (try dsimp only at hSw); (try simp only [List.getElem_toArray, List.getElem_cons_zero, List.getElem_cons_succ]); go_simp; try with_reducible rfl
        (try simp only [List.getElem_toArray, List.getElem_cons_zero, List.getElem_cons_succ, Act.put, List.setIfInBounds_toArray, List.set_cons_zero, List.set_cons_succ])
        refine wpAnyH_done (by kernel_rfl) ?_ _
        go_wp2_with fail
        go_meet
        exact ⟨rfl, Lib.hid (next0 B3.out qa)⟩
      case rest =>
        obtain ⟨rfl, G3⟩ := hcut
        go_wp2_with fail
        go_ret
        exact ⟨rfl, G3.out⟩
set_option maxRecDepth 100000 in
set_option maxHeartbeats 1600000 in
theorem one (s : ByteArray) (w : World) (hw : Wd w) : Calls Tryd.prog 8 #[.string s] w fun e w' => e = .returned (.bool true) ∧ Below w.heap.size w w' := by
  have HA := Lib.hid awake_any
  by_cases hs : 2000 < s.size
  · have hs1 : (2000 : Int) < (s.size : Int) := by omega
    go_enter Tryd.func8, Tryd.ntmps8
    go_wp2_with fail
    refine (HA.out w hw).mono ?_
    rintro e w' ⟨rfl, hB⟩
    have B := Lib.hid hB
    clear hB HA
    go_wp2_with fail
    go_ret
    exact ⟨rfl, B.out⟩
  · cases hO : wholeF ruleF s.data.toList with
    | bad a er => exact one_bad s w hw hs ⟨a, er, hO⟩
    | good x r =>
      obtain ⟨_, _, _, _, rfl⟩ := ParLn.whole_good hO
      exact one_good s w hw hs ⟨x, hO⟩
end ParL1
end Go.Proofs.YtdalepdpobcpaaaDoor
