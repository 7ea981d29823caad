/- Texts laid together: RefJ. Their own heads stand before each. -/
import Derived.Test.YtfdpelokiljigaaDoorPk26
import Derived.Deep.LoopGhost
import Derived.Deep.RegionHeld3
import Derived.Deep.DeepCutAuto
import Derived.BigQuiet
/- The reference's reader: rule. No conditions but a reader in memory. -/
namespace Go.Proofs.YtfdpelokiljigaaDoor
open Go Go.RowKit
namespace RefJ
open Kit LexM TermM TermI TermU LexE LexF LexG LexP LexQ ParM ParA ParB ParC ParD ParK ParE ParG ParV ParN RefA RefB RefC0 RefC RefD RefF RefJ0
theorem litT_len {n : Nat} {ts r : List GTok} {x : Lt} {OL : Out Lt} (h : OL = .good x r) (h1 : OL = litT n ts) (h8 : n ≤ 8) : n ≤ 7 := by
  rw [h1] at h
  unfold litT at h
  split at h
  · cases h
  · rename_i c
    rcases Nat.lt_or_ge n 8 with hl | hl
    · omega
    · exfalso
      have hn : n = 8 := by omega
      have hb : (isB (hd ts) sNot || atomB (hd ts)) = false := by
        cases hc : (isB (hd ts) sNot || atomB (hd ts)) with
        | false => rfl
        | true => exact absurd (by rw [hn, hc]; rfl) c
      obtain ⟨h2, h3⟩ := Bool.or_eq_false_iff.1 hb
      obtain ⟨a, e, he⟩ := atom_bad h3
      unfold litF at h
      rw [if_neg (by rw [h2]; decide), he] at h
      cases h
set_option maxRecDepth 100000 in
set_option maxHeartbeats 6400000 in
theorem rule_any (r : Nat) (w : World) (ts : List GTok) (h : RR w r ts 0 0) :
    Calls Tryd.prog 57 #[.pointer (some ⟨r, 0, none⟩)] w (RlO r w (ruleF ts)) := by
  obtain ⟨W1, hW1⟩ : ∃ W1, W1 = w.alloc (.cells Z3 27) := ⟨_, rfl⟩
  have G1 : Below w.heap.size w W1 := by rw [hW1]; exact below_alloc w _
  have H1 : Hid (Has W1 w.heap.size Z3) := Lib.hid (by rw [hW1]; exact Has.new _ _ _)
  have hr := h.lt
  have C1 := Lib.hid (Ch.of (r := r) G1)
  have hneZ : w.heap.size ≠ r := by omega
  have HS1 : Hid (W1.heap.size = w.heap.size + 1) := Lib.hid (by rw [hW1]; simp)
  have AT := Lib.hid (RefE.atom_ok r W1 ts (h.below G1))
  have HR := Lib.hid (rule_fin ts)
  generalize ruleF ts = O at *
  generalize atomF ts = OA at *
  have HW1 := Lib.hid hW1
  clear G1 h
  unfold RlO
  go_enter Tryd.func57, Tryd.ntmps57
  go_upto_region 1 with fail
  rw [← hW1]
  clear hW1
  go_wp2_with fail
  refine AT.out.mono ?_
  rintro e w2 hT
  obtain ⟨nm, hp, hn, hc, rfl, hC2, hF2⟩ := tmO_uni hT
  obtain ⟨X, hXe⟩ : ∃ X, X = w2.heap.size := ⟨_, rfl⟩
  have hX : w.heap.size < X := by rw [hXe]; have := HS1.out; have := hC2.size; omega
  have hneX : X ≠ r := by omega
  have hrX1 : r < X + 1 := by omega
  obtain ⟨w3, hw3⟩ : ∃ w3, w3 = w2.alloc (.cells #[.string nm, .slice hp hn hc, .slice none 0 0] 27) := ⟨_, rfl⟩
  have G3 : Below w2.heap.size w2 w3 := by rw [hw3]; exact below_alloc w2 _
  have HX := Lib.hid (show Has w3 X #[.string nm, .slice hp hn hc, .slice none 0 0] by rw [hw3, hXe]; exact Has.new _ _ _)
  have HCH := Lib.hid ((C1.out.trans hC2).below G3)
  have HZ := Lib.hid ((hC2.has H1.out hneZ).step0 G3)
  have hFX : Hid ((∃ t ts1, OA = .good t ts1 ∧ HDk w X nm hp hn hc t w3 ∧ RR w3 r ts1 0 0) ∨ (∃ a er ts1, OA = .bad a er ∧ er ≠ 0 ∧ RR w3 r ts1 a er)) := Lib.hid (by
    rcases hF2 with ⟨t, ts1, h1, h2, h3, h4, h5, h6⟩ | ⟨a, er, ts1, h1, h2, h3⟩
    · refine Or.inl ⟨t, ts1, h1, ⟨h2, h3, (h4.frame fun b o hb => G3.cell (p := ⟨b, o, none⟩) hb.2).weaken fun b hb => ⟨by have h7 : W1.heap.size ≤ b := hb.1; have := HS1.out; omega, by rw [hXe]; exact hb.2⟩, h5⟩, h6.below G3⟩
    · exact Or.inr ⟨a, er, ts1, h1, h2, h3.below G3⟩)
  clear hT hC2 hF2 AT C1 H1
  go_upto_region 2 with fail
  rw [← hw3]
  clear hw3 G3
  have hXw : X < w3.heap.size := HX.out.lt
  rw [← hXe]
  clear hXe
  go_cut [4] (fun s4 wx => ∃ b h, s4 = .bool b ∧ Hid (LU r w X nm hp hn hc h O 9 b wx))
  case first =>
    rcases hFX.out with ⟨t, ts1, hg, hD, hRR⟩ | ⟨a, er, ts1, hb, her, hRR⟩
    · have HO : Hid (O = if isB (hd ts1) sIf = true then (bodyF ts1.tail).then (fin t) else fin t [] ts1) := Lib.hid (by rw [HR.out, hg]; rfl)
      have RD := Lib.hid hRR
      have D3 := Lib.hid hD
      clear hg hD hRR hFX HR
      cases hif : isB (hd ts1) sIf with
      | true =>
        have I3 := Lib.hid (is_yes w3 r ts1 0 sIf (Or.inr (Or.inr (Or.inr (Or.inr (Or.inl rfl))))) RD.out hif)
        have NE := Lib.hid (isB_ne hif lit_ne.2.2.2.2.1)
        have HO2 : Hid (O = (goL (([] : List (Lt × Value)).map (·.1)) ts1.tail).then (fin t)) := Lib.hid (by rw [HO.out, if_pos hif, body_go]; rfl)
        clear hif HO
        go_wp2_with fail
        refine I3.out.mono ?_
        rintro e w4 ⟨rfl, k⟩
        have FIN := Lib.hid (show LU r w X nm hp hn hc t O 9 true w4 from ⟨HCH.out.below k, HZ.out.step0 k, Nat.lt_of_lt_of_le hXw k.size, Or.inl ⟨rfl, [], .slice none 0 0, ts1, D3.out.ch (Ch.of (r := r) k) hr (Nat.le_of_lt hXw), rfl, by simp, HO2.out, NE.out, OwnG.nil _ _, HX.out.step0 k, RD.out.below k⟩⟩)
        clear k I3
        go_wp2_with fail
        go_meet
        exact ⟨true, t, rfl, FIN⟩
      | false =>
        have I3 := Lib.hid (is_no w3 r ts1 0 sIf RD.out hif)
        have HO2 : Hid (O = fin t (([] : List (Lt × Value)).map (·.1)) ts1) := Lib.hid (by rw [HO.out, if_neg (by rw [hif]; decide)]; rfl)
        clear hif HO
        go_wp2_with fail
        refine I3.out.mono ?_
        rintro e w4 ⟨rfl, k⟩
        have FIN := Lib.hid (show LU r w X nm hp hn hc t O 9 false w4 from ⟨HCH.out.below k, HZ.out.step0 k, Nat.lt_of_lt_of_le hXw k.size, Or.inr (Or.inl ⟨rfl, [], .slice none 0 0, ts1, D3.out.ch (Ch.of (r := r) k) hr (Nat.le_of_lt hXw), HO2.out, OwnG.nil _ _, HX.out.step0 k, RD.out.below k⟩)⟩)
        clear k I3
        go_wp2_with fail
        go_meet
        exact ⟨false, t, rfl, FIN⟩
    · have HO2 : Hid (O = .bad a er) := Lib.hid (by rw [HR.out, hb]; rfl)
      have RD := Lib.hid hRR
      have E3 := Lib.hid her
      have I3 := Lib.hid (is_err w3 r ts1 a er sIf RD.out E3.out)
      clear hb her hRR hFX HR
      go_wp2_with fail
      refine I3.out.mono ?_
      rintro e w4 ⟨rfl, k⟩
      have FIN := Lib.hid (show LU r w X nm hp hn hc (.mk ⟨#[]⟩ []) O 9 false w4 from ⟨HCH.out.below k, HZ.out.step0 k, Nat.lt_of_lt_of_le hXw k.size, Or.inr (Or.inr ⟨rfl, none, 0, 0, ts1, a, er, HO2.out, E3.out, HX.out.step0 k, RD.out.below k⟩)⟩)
      clear k I3
      go_wp2_with fail
      go_meet
      exact ⟨false, _, rfl, FIN⟩
  case rest =>
  obtain ⟨b0, h, rfl, ST⟩ := hcut
  clear HCH HZ HX hFX HR hXw HS1
  obtain ⟨i0, hi, hz0, hz1, hz2⟩ := info_parts Tryd.infoL
  have HI := Lib.hid (And.intro hi (And.intro hz0 (And.intro hz1 hz2)))
  clear hi hz0 hz1 hz2
  go_wp2_with fail
  go_loopg [4] 9 (fun gk s wr => ∃ b, s = .bool b ∧ Hid (LU r w X nm hp hn hc h O gk b wr))
  case atStart => exact ⟨b0, rfl, ST⟩
  case round =>
    clear ST
    obtain ⟨b', rfl, hL⟩ := hrel
    obtain ⟨hC, hZ, hXl, hrr⟩ := hL.out
    have HCH := Lib.hid hC
    have HZ := Lib.hid hZ
    clear hL hC hZ
    rcases hrr with ⟨rfl, M, v, tk, hD, hMG, hM8, hOB, hNE, hOw, hT, hRD⟩ | ⟨rfl, M, v, tk, hD, hOB, hOw, hT, hRD⟩ | ⟨rfl, p, m, c, tk, a, er, hOB, her, hT, hRD⟩
    · obtain ⟨va, vc, hv⟩ := hOw.form
      subst hv
      have HMG := Lib.hid hMG
      have HM8 := Lib.hid hM8
      have A1 : Hid (M.length + 1 ≤ maxLen) := Lib.hid (by unfold maxLen; omega)
      have A2 : Hid ((M.length + 1) * 48 ≤ 140737488355328) := Lib.hid (by omega)
      obtain ⟨g, o, c, n, i, i1, i2, i3, i4, i5, x1, x2, x3, x4, f1, f2, f3, _⟩ := hRD.open
      have hi1 : (i : Int) < 20000 := by omega
      have hi0 : 0 ≤ (i : Int) := by omega
      have RD := Lib.hid (hRD.pass (Or.inr hNE) x2)
      have HCH := Lib.hid (HCH.out.put (p := ⟨r, 1, none⟩) (Or.inl rfl) (.int .i64 ((i : Int) + 1)))
      have HZ := Lib.hid (HZ.out.far (p := ⟨r, 1, none⟩) hneZ (.int .i64 ((i : Int) + 1)))
      have HX := Lib.hid (hT.far (p := ⟨r, 1, none⟩) hneX (.int .i64 ((i : Int) + 1)))
      have hCr := (Ch.refl r wr).put (p := ⟨r, 1, none⟩) (Or.inl rfl) (.int .i64 ((i : Int) + 1))
      have HOW := Lib.hid (hOw.ch hCr hrX1)
      have HD := Lib.hid (hD.ch hCr hr (Nat.le_of_lt hXl))
      obtain ⟨OL, hOL⟩ : ∃ OL, OL = litT M.length tk.tail := ⟨_, rfl⟩
      have HOL := Lib.hid hOL
      have HGO : Hid (O = (OL.then fun x r => litsF (8 - M.length) (M.map (·.1) ++ [x]) r).then (fin h)) := Lib.hid (by rw [hOB, hOL]; unfold goL; rw [List.length_map])
      clear hMG hM8 hOB hNE hOw hT hRD hD hCr hXl hOL
      generalize tk.tail = ts2 at *
      go_upto_region 5 with fail
      generalize wr.setCell ⟨r, 1, none⟩ (.int .i64 ((i : Int) + 1)) = w4 at *
      clear i1 i2 i3 i4 i5 hi1 hi0 x1 x2 x3 x4 f1 f2 f3
      obtain ⟨g, o, c, n, i, i1, i2, i3, i4, i5, x1, x2, x3, x4, f1, f2, f3, y1, y2, y3, y4⟩ := RD.out.open
      have hi1 : (i : Int) < (n : Int) := by omega
      have hi0 : 0 ≤ (i : Int) := by omega
      have hX4 : X < w4.heap.size := HX.out.lt
      have z2c : w4.cell? ⟨X, 2, none⟩ = some (.slice va M.length vc) := HX.out.cell 2
      obtain ⟨k, hk⟩ : ∃ k, (hd ts2).1 = k := ⟨_, rfl⟩
      have HKK := Lib.hid hk
      rw [hk] at y1
      clear hk
      have Hb : Hid (∀ w', Below w4.heap.size w4 w' → w'.cell? ⟨X, 2, none⟩ = some (.slice va M.length vc) ∧ w'.cell? ⟨r, 0, none⟩ = some (.slice (some ⟨g, o, none⟩) n c) ∧ w'.cell? ⟨r, 1, none⟩ = some (.int .i64 (i : Nat)) ∧ w'.cell? ⟨g, o + i * 3, none⟩ = some (.int .i64 k) ∧ Hid (Below w4.heap.size w4 w')) := Lib.hid (fun w' g' => ⟨(g'.cell (p := ⟨_, _, none⟩) hX4).trans z2c, (g'.cell (p := ⟨_, _, none⟩) i3).trans x1, (g'.cell (p := ⟨_, _, none⟩) i3).trans x2, (g'.cell (p := ⟨_, _, none⟩) i5).trans y1, Lib.hid g'⟩)
      obtain ⟨tl, htl⟩ : ∃ tl, tl = (decide (M.length = 8) && (isB (hd ts2) sNot || atomB (hd ts2))) := ⟨_, rfl⟩
      have HTL := Lib.hid htl
      clear htl
      go_upto_region 5 with fail
      go_cut [47] (fun s47 wx => s47 = .bool tl ∧ Hid (Below w4.heap.size w4 wx))
      case first =>
        by_cases h8 : M.length = 8
        · have e8 : ((M.length : Int) == 8) = true := by rw [h8]; rfl
          have e8' : (M.length == 8) = true := by rw [h8]; rfl
          have H8 := Lib.hid h8
          clear h8
          have hs0 := Hb.out _ (Below.refl _ w4).drew
          cases hno : isB (hd ts2) sNot with
          | true =>
            obtain rfl : tl = true := by have := HTL.out; rw [H8.out, hno] at this; exact this
            have I5 := Lib.hid (fun w5 (k5 : Below w4.heap.size w4 w5) => is_yes w5 r ts2 0 sNot (Or.inr (Or.inr (Or.inr (Or.inr (Or.inr (Or.inr rfl)))))) (RD.out.below k5) hno)
            clear x1 x2 x3 x4 f1 f2 f3 y1 y2 y3 y4 z2c hno HTL
            refine wp_region_held_drew (S := (fun w' => w'.cell? ⟨X, 2, none⟩ = some (.slice va M.length vc) ∧ w'.cell? ⟨r, 0, none⟩ = some (.slice (some ⟨g, o, none⟩) n c) ∧ w'.cell? ⟨r, 1, none⟩ = some (.int .i64 (i : Nat)) ∧ w'.cell? ⟨g, o + i * 3, none⟩ = some (.int .i64 k) ∧ Hid (Below w4.heap.size w4 w'))) (by kernel_rfl) hs0 (fun hHeld => ?_)
            refine wpAnyH_take (i := 0) (v := ?_) rfl (by kernel_rfl) (by kernel_rfl) (by kernel_rfl) (fun _ _ _ h => h) (Or.inl ⟨by rfl, ?_⟩) (by assumption) ?_
            rotate_left
            · intro w' hSw; (try dsimp only at hSw); (try simp only [List.getElem_toArray, List.getElem_cons_zero]); go_simp; try with_reducible rfl
            (try simp only [List.getElem_toArray, List.getElem_cons_zero, Act.put, List.setIfInBounds_toArray, List.set_cons_zero, List.set_cons_succ])
            refine wpAnyH_take (i := 1) (v := ?_) rfl (by kernel_rfl) (by kernel_rfl) (by kernel_rfl) (fun _ _ _ h => h) (Or.inl ⟨by rfl, ?_⟩) (by assumption) ?_
            rotate_left
            · intro w' hSw; (try dsimp only at hSw); (try simp only [List.getElem_toArray, List.getElem_cons_zero, List.getElem_cons_succ]); go_simp; try with_reducible rfl
            (try simp only [List.getElem_toArray, List.getElem_cons_zero, List.getElem_cons_succ, Act.put, List.setIfInBounds_toArray, List.set_cons_zero, List.set_cons_succ])
            refine wpAnyH_take (i := 2) (v := ?_) rfl (by kernel_rfl) (by kernel_rfl) (by kernel_rfl) (fun _ _ _ h => h) (Or.inl ⟨by rfl, ?_⟩) (by assumption) ?_
            rotate_left
            · intro w' hSw; (try dsimp only at hSw); (try simp only [List.getElem_toArray, List.getElem_cons_zero, List.getElem_cons_succ]); go_simp; try with_reducible rfl
            (try simp only [List.getElem_toArray, List.getElem_cons_zero, List.getElem_cons_succ, Act.put, List.setIfInBounds_toArray, List.set_cons_zero, List.set_cons_succ])
            refine wpAnyH_take (i := 3) (v := ?_) rfl (by kernel_rfl) (by kernel_rfl) (by kernel_rfl) (fun _ _ _ h => h) (Or.inl ⟨by rfl, ?_⟩) (by assumption) ?_
            rotate_left
            · intro w' hSw; (try dsimp only at hSw); (try simp only [List.getElem_toArray, List.getElem_cons_zero, List.getElem_cons_succ]); go_simp; try with_reducible rfl
            (try simp only [List.getElem_toArray, List.getElem_cons_zero, List.getElem_cons_succ, Act.put, List.setIfInBounds_toArray, List.set_cons_zero, List.set_cons_succ])
            refine wpAnyH_take (i := 4) (v := ?_) rfl (by kernel_rfl) (by kernel_rfl) (by kernel_rfl) (fun _ _ _ h => h) (Or.inl ⟨by rfl, ?_⟩) (by assumption) ?_
            rotate_left
            · intro w' hSw; (try dsimp only at hSw); (try simp only [List.getElem_toArray, List.getElem_cons_zero, List.getElem_cons_succ]); go_simp; try with_reducible rfl
            (try simp only [List.getElem_toArray, List.getElem_cons_zero, List.getElem_cons_succ, Act.put, List.setIfInBounds_toArray, List.set_cons_zero, List.set_cons_succ])
            refine wpAnyH_take (i := 5) (v := ?_) rfl (by kernel_rfl) (by kernel_rfl) (by kernel_rfl) (fun _ _ _ h => h) (Or.inl ⟨by rfl, ?_⟩) (by assumption) ?_
            rotate_left
            · intro w' hSw; (try dsimp only at hSw); (try simp only [List.getElem_toArray, List.getElem_cons_zero, List.getElem_cons_succ]); go_simp; try with_reducible rfl
            (try simp only [List.getElem_toArray, List.getElem_cons_zero, List.getElem_cons_succ, Act.put, List.setIfInBounds_toArray, List.set_cons_zero, List.set_cons_succ])
            refine wpAnyH_ready (rs := [6]) (by kernel_rfl) (by simp) ?_
            refine AllReadyH.cons rfl (fun K hK => ?_) AllReadyH.nil
            go_simp
            (try go_split_ands)
            refine (I5.out _ (Below.refl _ _).drew).mono ?_
            rintro e w5 ⟨rfl, q0⟩
            have qg : Below w4.heap.size w4 w5 := next0 (Below.refl _ _).drew q0
            clear q0
            obtain ⟨z1, z2, z3, z4, z5⟩ := Hb.out _ qg
            refine hK.out _ _ ⟨z1, z2, z3, z4, z5⟩ (fun hHeld => ?_)
            clear hK K
            (try simp only [List.getElem_toArray, List.getElem_cons_zero, List.getElem_cons_succ, Act.put, List.setIfInBounds_toArray, List.set_cons_zero, List.set_cons_succ])
            refine wpAnyH_take (i := 7) (v := ?_) rfl (by kernel_rfl) (by kernel_rfl) (by kernel_rfl) (fun _ _ _ h => h) (Or.inl ⟨by rfl, ?_⟩) (by assumption) ?_
            rotate_left
            · intro w' hSw; (try dsimp only at hSw); (try simp only [List.getElem_toArray, List.getElem_cons_zero, List.getElem_cons_succ]); go_simp; try with_reducible rfl
            (try simp only [List.getElem_toArray, List.getElem_cons_zero, List.getElem_cons_succ, Act.put, List.setIfInBounds_toArray, List.set_cons_zero, List.set_cons_succ])
            first
              | (refine wpAnyH_take (i := 8) (v := undef) rfl (by kernel_rfl) (by kernel_rfl) (by kernel_rfl) (fun _ _ _ h => h) (Or.inr ⟨by rfl, rfl⟩) (by assumption) ?_)
              | (refine wpAnyH_ready (rs := [8]) (by kernel_rfl) (by simp) ?_; refine AllReadyH.cons rfl (fun K hK => ?_) AllReadyH.nil; rw [if_neg (by decide)]; refine hK.out _ _ (by assumption) (fun hHeld => ?_); clear hK K)
            (try simp only [List.getElem_toArray, List.getElem_cons_zero, List.getElem_cons_succ, Act.put, List.setIfInBounds_toArray, List.set_cons_zero, List.set_cons_succ])
            first
              | (refine wpAnyH_take (i := 9) (v := undef) rfl (by kernel_rfl) (by kernel_rfl) (by kernel_rfl) (fun _ _ _ h => h) (Or.inr ⟨by rfl, rfl⟩) (by assumption) ?_)
              | (refine wpAnyH_ready (rs := [9]) (by kernel_rfl) (by simp) ?_; refine AllReadyH.cons rfl (fun K hK => ?_) AllReadyH.nil; rw [if_neg (by decide)]; refine hK.out _ _ (by assumption) (fun hHeld => ?_); clear hK K)
            (try simp only [List.getElem_toArray, List.getElem_cons_zero, List.getElem_cons_succ, Act.put, List.setIfInBounds_toArray, List.set_cons_zero, List.set_cons_succ])
            first
              | (refine wpAnyH_take (i := 10) (v := undef) rfl (by kernel_rfl) (by kernel_rfl) (by kernel_rfl) (fun _ _ _ h => h) (Or.inr ⟨by rfl, rfl⟩) (by assumption) ?_)
              | (refine wpAnyH_ready (rs := [10]) (by kernel_rfl) (by simp) ?_; refine AllReadyH.cons rfl (fun K hK => ?_) AllReadyH.nil; rw [if_neg (by decide)]; refine hK.out _ _ (by assumption) (fun hHeld => ?_); clear hK K)
            (try simp only [List.getElem_toArray, List.getElem_cons_zero, List.getElem_cons_succ, Act.put, List.setIfInBounds_toArray, List.set_cons_zero, List.set_cons_succ])
            first
              | (refine wpAnyH_take (i := 11) (v := undef) rfl (by kernel_rfl) (by kernel_rfl) (by kernel_rfl) (fun _ _ _ h => h) (Or.inr ⟨by rfl, rfl⟩) (by assumption) ?_)
              | (refine wpAnyH_ready (rs := [11]) (by kernel_rfl) (by simp) ?_; refine AllReadyH.cons rfl (fun K hK => ?_) AllReadyH.nil; rw [if_neg (by decide)]; refine hK.out _ _ (by assumption) (fun hHeld => ?_); clear hK K)
            (try simp only [List.getElem_toArray, List.getElem_cons_zero, List.getElem_cons_succ, Act.put, List.setIfInBounds_toArray, List.set_cons_zero, List.set_cons_succ])
            first
              | (refine wpAnyH_take (i := 12) (v := undef) rfl (by kernel_rfl) (by kernel_rfl) (by kernel_rfl) (fun _ _ _ h => h) (Or.inr ⟨by rfl, rfl⟩) (by assumption) ?_)
              | (refine wpAnyH_ready (rs := [12]) (by kernel_rfl) (by simp) ?_; refine AllReadyH.cons rfl (fun K hK => ?_) AllReadyH.nil; rw [if_neg (by decide)]; refine hK.out _ _ (by assumption) (fun hHeld => ?_); clear hK K)
            (try simp only [List.getElem_toArray, List.getElem_cons_zero, List.getElem_cons_succ, Act.put, List.setIfInBounds_toArray, List.set_cons_zero, List.set_cons_succ])
            first
              | (refine wpAnyH_take (i := 13) (v := undef) rfl (by kernel_rfl) (by kernel_rfl) (by kernel_rfl) (fun _ _ _ h => h) (Or.inr ⟨by rfl, rfl⟩) (by assumption) ?_)
              | (refine wpAnyH_ready (rs := [13]) (by kernel_rfl) (by simp) ?_; refine AllReadyH.cons rfl (fun K hK => ?_) AllReadyH.nil; rw [if_neg (by decide)]; refine hK.out _ _ (by assumption) (fun hHeld => ?_); clear hK K)
            (try simp only [List.getElem_toArray, List.getElem_cons_zero, List.getElem_cons_succ, Act.put, List.setIfInBounds_toArray, List.set_cons_zero, List.set_cons_succ])
            first
              | (refine wpAnyH_take (i := 14) (v := undef) rfl (by kernel_rfl) (by kernel_rfl) (by kernel_rfl) (fun _ _ _ h => h) (Or.inr ⟨by rfl, rfl⟩) (by assumption) ?_)
              | (refine wpAnyH_ready (rs := [14]) (by kernel_rfl) (by simp) ?_; refine AllReadyH.cons rfl (fun K hK => ?_) AllReadyH.nil; rw [if_neg (by decide)]; refine hK.out _ _ (by assumption) (fun hHeld => ?_); clear hK K)
            (try simp only [List.getElem_toArray, List.getElem_cons_zero, List.getElem_cons_succ, Act.put, List.setIfInBounds_toArray, List.set_cons_zero, List.set_cons_succ])
            first
              | (refine wpAnyH_take (i := 15) (v := undef) rfl (by kernel_rfl) (by kernel_rfl) (by kernel_rfl) (fun _ _ _ h => h) (Or.inr ⟨by rfl, rfl⟩) (by assumption) ?_)
              | (refine wpAnyH_ready (rs := [15]) (by kernel_rfl) (by simp) ?_; refine AllReadyH.cons rfl (fun K hK => ?_) AllReadyH.nil; rw [if_neg (by decide)]; refine hK.out _ _ (by assumption) (fun hHeld => ?_); clear hK K)
            (try simp only [List.getElem_toArray, List.getElem_cons_zero, List.getElem_cons_succ, Act.put, List.setIfInBounds_toArray, List.set_cons_zero, List.set_cons_succ])
            first
              | (refine wpAnyH_take (i := 16) (v := undef) rfl (by kernel_rfl) (by kernel_rfl) (by kernel_rfl) (fun _ _ _ h => h) (Or.inr ⟨by rfl, rfl⟩) (by assumption) ?_)
              | (refine wpAnyH_ready (rs := [16]) (by kernel_rfl) (by simp) ?_; refine AllReadyH.cons rfl (fun K hK => ?_) AllReadyH.nil; rw [if_neg (by decide)]; refine hK.out _ _ (by assumption) (fun hHeld => ?_); clear hK K)
            (try simp only [List.getElem_toArray, List.getElem_cons_zero, List.getElem_cons_succ, Act.put, List.setIfInBounds_toArray, List.set_cons_zero, List.set_cons_succ])
            first
              | (refine wpAnyH_take (i := 17) (v := undef) rfl (by kernel_rfl) (by kernel_rfl) (by kernel_rfl) (fun _ _ _ h => h) (Or.inr ⟨by rfl, rfl⟩) (by assumption) ?_)
              | (refine wpAnyH_ready (rs := [17]) (by kernel_rfl) (by simp) ?_; refine AllReadyH.cons rfl (fun K hK => ?_) AllReadyH.nil; rw [if_neg (by decide)]; refine hK.out _ _ (by assumption) (fun hHeld => ?_); clear hK K)
            (try simp only [List.getElem_toArray, List.getElem_cons_zero, List.getElem_cons_succ, Act.put, List.setIfInBounds_toArray, List.set_cons_zero, List.set_cons_succ])
            first
              | (refine wpAnyH_take (i := 18) (v := undef) rfl (by kernel_rfl) (by kernel_rfl) (by kernel_rfl) (fun _ _ _ h => h) (Or.inr ⟨by rfl, rfl⟩) (by assumption) ?_)
              | (refine wpAnyH_ready (rs := [18]) (by kernel_rfl) (by simp) ?_; refine AllReadyH.cons rfl (fun K hK => ?_) AllReadyH.nil; rw [if_neg (by decide)]; refine hK.out _ _ (by assumption) (fun hHeld => ?_); clear hK K)
            (try simp only [List.getElem_toArray, List.getElem_cons_zero, List.getElem_cons_succ, Act.put, List.setIfInBounds_toArray, List.set_cons_zero, List.set_cons_succ])
            first
              | (refine wpAnyH_take (i := 19) (v := undef) rfl (by kernel_rfl) (by kernel_rfl) (by kernel_rfl) (fun _ _ _ h => h) (Or.inr ⟨by rfl, rfl⟩) (by assumption) ?_)
              | (refine wpAnyH_ready (rs := [19]) (by kernel_rfl) (by simp) ?_; refine AllReadyH.cons rfl (fun K hK => ?_) AllReadyH.nil; rw [if_neg (by decide)]; refine hK.out _ _ (by assumption) (fun hHeld => ?_); clear hK K)
            (try simp only [List.getElem_toArray, List.getElem_cons_zero, List.getElem_cons_succ, Act.put, List.setIfInBounds_toArray, List.set_cons_zero, List.set_cons_succ])
            refine wpAnyH_take (i := 20) (v := ?_) rfl (by kernel_rfl) (by kernel_rfl) (by kernel_rfl) (fun _ _ _ h => h) (Or.inl ⟨by rfl, ?_⟩) (by assumption) ?_
            rotate_left
            · intro w' hSw; (try dsimp only at hSw); (try simp only [List.getElem_toArray, List.getElem_cons_zero, List.getElem_cons_succ]); go_simp; try with_reducible rfl
            (try simp only [List.getElem_toArray, List.getElem_cons_zero, List.getElem_cons_succ, Act.put, List.setIfInBounds_toArray, List.set_cons_zero, List.set_cons_succ])
            refine wpAnyH_take (i := 21) (v := ?_) rfl (by kernel_rfl) (by kernel_rfl) (by kernel_rfl) (fun _ _ _ h => h) (Or.inl ⟨by rfl, ?_⟩) (by assumption) ?_
            rotate_left
            · intro w' hSw; (try dsimp only at hSw); (try simp only [List.getElem_toArray, List.getElem_cons_zero, List.getElem_cons_succ]); go_simp; try with_reducible rfl
            (try simp only [List.getElem_toArray, List.getElem_cons_zero, List.getElem_cons_succ, Act.put, List.setIfInBounds_toArray, List.set_cons_zero, List.set_cons_succ])
            refine wpAnyH_done (by kernel_rfl) ?_ _
            go_wp2_with fail
            go_meet
            exact ⟨rfl, Lib.hid qg⟩
          | false =>
            have I5 := Lib.hid (fun w5 (k5 : Below w4.heap.size w4 w5) => is_no w5 r ts2 0 sNot (RD.out.below k5) hno)
            have HTL2 : Hid (tl = (k == 1)) := Lib.hid (by have := HTL.out; rw [H8.out, hno] at this; rw [this]; unfold atomB; rw [HKK.out]; rfl)
            clear x1 x2 x3 x4 f1 f2 f3 y1 y2 y3 y4 z2c hno HTL
            obtain ⟨kb, hkb⟩ : ∃ kb, (k == 1) = kb := ⟨_, rfl⟩
            obtain rfl : tl = kb := HTL2.out.trans hkb
            cases tl
            all_goals
              refine wp_region_held_drew (S := (fun w' => w'.cell? ⟨X, 2, none⟩ = some (.slice va M.length vc) ∧ w'.cell? ⟨r, 0, none⟩ = some (.slice (some ⟨g, o, none⟩) n c) ∧ w'.cell? ⟨r, 1, none⟩ = some (.int .i64 (i : Nat)) ∧ w'.cell? ⟨g, o + i * 3, none⟩ = some (.int .i64 k) ∧ Hid (Below w4.heap.size w4 w'))) (by kernel_rfl) hs0 (fun hHeld => ?_)
              refine wpAnyH_take (i := 0) (v := ?_) rfl (by kernel_rfl) (by kernel_rfl) (by kernel_rfl) (fun _ _ _ h => h) (Or.inl ⟨by rfl, ?_⟩) (by assumption) ?_
              rotate_left
              · intro w' hSw; (try dsimp only at hSw); (try simp only [List.getElem_toArray, List.getElem_cons_zero]); go_simp; try with_reducible rfl
              (try simp only [List.getElem_toArray, List.getElem_cons_zero, Act.put, List.setIfInBounds_toArray, List.set_cons_zero, List.set_cons_succ])
              refine wpAnyH_take (i := 1) (v := ?_) rfl (by kernel_rfl) (by kernel_rfl) (by kernel_rfl) (fun _ _ _ h => h) (Or.inl ⟨by rfl, ?_⟩) (by assumption) ?_
              rotate_left
              · intro w' hSw; (try dsimp only at hSw); (try simp only [List.getElem_toArray, List.getElem_cons_zero, List.getElem_cons_succ]); go_simp; try with_reducible rfl
              (try simp only [List.getElem_toArray, List.getElem_cons_zero, List.getElem_cons_succ, Act.put, List.setIfInBounds_toArray, List.set_cons_zero, List.set_cons_succ])
              refine wpAnyH_take (i := 2) (v := ?_) rfl (by kernel_rfl) (by kernel_rfl) (by kernel_rfl) (fun _ _ _ h => h) (Or.inl ⟨by rfl, ?_⟩) (by assumption) ?_
              rotate_left
              · intro w' hSw; (try dsimp only at hSw); (try simp only [List.getElem_toArray, List.getElem_cons_zero, List.getElem_cons_succ]); go_simp; try with_reducible rfl
              (try simp only [List.getElem_toArray, List.getElem_cons_zero, List.getElem_cons_succ, Act.put, List.setIfInBounds_toArray, List.set_cons_zero, List.set_cons_succ])
              refine wpAnyH_take (i := 3) (v := ?_) rfl (by kernel_rfl) (by kernel_rfl) (by kernel_rfl) (fun _ _ _ h => h) (Or.inl ⟨by rfl, ?_⟩) (by assumption) ?_
              rotate_left
              · intro w' hSw; (try dsimp only at hSw); (try simp only [List.getElem_toArray, List.getElem_cons_zero, List.getElem_cons_succ]); go_simp; try with_reducible rfl
              (try simp only [List.getElem_toArray, List.getElem_cons_zero, List.getElem_cons_succ, Act.put, List.setIfInBounds_toArray, List.set_cons_zero, List.set_cons_succ])
              refine wpAnyH_take (i := 4) (v := ?_) rfl (by kernel_rfl) (by kernel_rfl) (by kernel_rfl) (fun _ _ _ h => h) (Or.inl ⟨by rfl, ?_⟩) (by assumption) ?_
              rotate_left
              · intro w' hSw; (try dsimp only at hSw); (try simp only [List.getElem_toArray, List.getElem_cons_zero, List.getElem_cons_succ]); go_simp; try with_reducible rfl
              (try simp only [List.getElem_toArray, List.getElem_cons_zero, List.getElem_cons_succ, Act.put, List.setIfInBounds_toArray, List.set_cons_zero, List.set_cons_succ])
              refine wpAnyH_take (i := 5) (v := ?_) rfl (by kernel_rfl) (by kernel_rfl) (by kernel_rfl) (fun _ _ _ h => h) (Or.inl ⟨by rfl, ?_⟩) (by assumption) ?_
              rotate_left
              · intro w' hSw; (try dsimp only at hSw); (try simp only [List.getElem_toArray, List.getElem_cons_zero, List.getElem_cons_succ]); go_simp; try with_reducible rfl
              (try simp only [List.getElem_toArray, List.getElem_cons_zero, List.getElem_cons_succ, Act.put, List.setIfInBounds_toArray, List.set_cons_zero, List.set_cons_succ])
              refine wpAnyH_ready (rs := [6]) (by kernel_rfl) (by simp) ?_
              refine AllReadyH.cons rfl (fun K hK => ?_) AllReadyH.nil
              go_simp
              (try go_split_ands)
              refine (I5.out _ (Below.refl _ _).drew).mono ?_
              rintro e w5 ⟨rfl, q0⟩
              have qg : Below w4.heap.size w4 w5 := next0 (Below.refl _ _).drew q0
              clear q0
              obtain ⟨z1, z2, z3, z4, z5⟩ := Hb.out _ qg
              refine hK.out _ _ ⟨z1, z2, z3, z4, z5⟩ (fun hHeld => ?_)
              clear hK K
              (try simp only [List.getElem_toArray, List.getElem_cons_zero, List.getElem_cons_succ, Act.put, List.setIfInBounds_toArray, List.set_cons_zero, List.set_cons_succ])
              refine wpAnyH_take (i := 7) (v := ?_) rfl (by kernel_rfl) (by kernel_rfl) (by kernel_rfl) (fun _ _ _ h => h) (Or.inl ⟨by rfl, ?_⟩) (by assumption) ?_
              rotate_left
              · intro w' hSw; (try dsimp only at hSw); (try simp only [List.getElem_toArray, List.getElem_cons_zero, List.getElem_cons_succ]); go_simp; try with_reducible rfl
              (try simp only [List.getElem_toArray, List.getElem_cons_zero, List.getElem_cons_succ, Act.put, List.setIfInBounds_toArray, List.set_cons_zero, List.set_cons_succ])
              refine wpAnyH_take (i := 8) (v := ?_) rfl (by kernel_rfl) (by kernel_rfl) (by kernel_rfl) (fun _ _ _ h => h) (Or.inl ⟨by rfl, ?_⟩) (by assumption) ?_
              rotate_left
              · intro w' hSw; (try dsimp only at hSw); (try simp only [List.getElem_toArray, List.getElem_cons_zero, List.getElem_cons_succ]); go_simp; try with_reducible rfl
              (try simp only [List.getElem_toArray, List.getElem_cons_zero, List.getElem_cons_succ, Act.put, List.setIfInBounds_toArray, List.set_cons_zero, List.set_cons_succ])
              refine wpAnyH_take (i := 9) (v := ?_) rfl (by kernel_rfl) (by kernel_rfl) (by kernel_rfl) (fun _ _ _ h => h) (Or.inl ⟨by rfl, ?_⟩) (by assumption) ?_
              rotate_left
              · intro w' hSw; (try dsimp only at hSw); (try simp only [List.getElem_toArray, List.getElem_cons_zero, List.getElem_cons_succ]); go_simp; try with_reducible rfl
              (try simp only [List.getElem_toArray, List.getElem_cons_zero, List.getElem_cons_succ, Act.put, List.setIfInBounds_toArray, List.set_cons_zero, List.set_cons_succ])
              refine wpAnyH_take (i := 10) (v := ?_) rfl (by kernel_rfl) (by kernel_rfl) (by kernel_rfl) (fun _ _ _ h => h) (Or.inl ⟨by rfl, ?_⟩) (by assumption) ?_
              rotate_left
              · intro w' hSw; (try dsimp only at hSw); (try simp only [List.getElem_toArray, List.getElem_cons_zero, List.getElem_cons_succ]); go_simp; try with_reducible rfl
              (try simp only [List.getElem_toArray, List.getElem_cons_zero, List.getElem_cons_succ, Act.put, List.setIfInBounds_toArray, List.set_cons_zero, List.set_cons_succ])
              refine wpAnyH_take (i := 11) (v := ?_) rfl (by kernel_rfl) (by kernel_rfl) (by kernel_rfl) (fun _ _ _ h => h) (Or.inl ⟨by rfl, ?_⟩) (by assumption) ?_
              rotate_left
              · intro w' hSw; (try dsimp only at hSw); (try simp only [List.getElem_toArray, List.getElem_cons_zero, List.getElem_cons_succ]); go_simp; try with_reducible rfl
              (try simp only [List.getElem_toArray, List.getElem_cons_zero, List.getElem_cons_succ, Act.put, List.setIfInBounds_toArray, List.set_cons_zero, List.set_cons_succ])
              refine wpAnyH_take (i := 12) (v := ?_) rfl (by kernel_rfl) (by kernel_rfl) (by kernel_rfl) (fun _ _ _ h => h) (Or.inl ⟨by rfl, ?_⟩) (by assumption) ?_
              rotate_left
              · intro w' hSw; (try dsimp only at hSw); (try simp only [List.getElem_toArray, List.getElem_cons_zero, List.getElem_cons_succ]); go_simp; try with_reducible rfl
              (try simp only [List.getElem_toArray, List.getElem_cons_zero, List.getElem_cons_succ, Act.put, List.setIfInBounds_toArray, List.set_cons_zero, List.set_cons_succ])
              refine wpAnyH_take (i := 13) (v := ?_) rfl (by kernel_rfl) (by kernel_rfl) (by kernel_rfl) (fun _ _ _ h => h) (Or.inl ⟨by rfl, ?_⟩) (by assumption) ?_
              rotate_left
              · intro w' hSw; (try dsimp only at hSw); (try simp only [List.getElem_toArray, List.getElem_cons_zero, List.getElem_cons_succ]); go_simp; try with_reducible rfl
              (try simp only [List.getElem_toArray, List.getElem_cons_zero, List.getElem_cons_succ, Act.put, List.setIfInBounds_toArray, List.set_cons_zero, List.set_cons_succ])
              refine wpAnyH_take (i := 14) (v := ?_) rfl (by kernel_rfl) (by kernel_rfl) (by kernel_rfl) (fun _ _ _ h => h) (Or.inl ⟨by rfl, ?_⟩) (by assumption) ?_
              rotate_left
              · intro w' hSw; (try dsimp only at hSw); (try simp only [List.getElem_toArray, List.getElem_cons_zero, List.getElem_cons_succ]); go_simp; try with_reducible rfl
              (try simp only [List.getElem_toArray, List.getElem_cons_zero, List.getElem_cons_succ, Act.put, List.setIfInBounds_toArray, List.set_cons_zero, List.set_cons_succ])
              refine wpAnyH_take (i := 15) (v := ?_) rfl (by kernel_rfl) (by kernel_rfl) (by kernel_rfl) (fun _ _ _ h => h) (Or.inl ⟨by rfl, ?_⟩) (by assumption) ?_
              rotate_left
              · intro w' hSw; (try dsimp only at hSw); (try simp only [List.getElem_toArray, List.getElem_cons_zero, List.getElem_cons_succ]); go_simp; try with_reducible rfl
              (try simp only [List.getElem_toArray, List.getElem_cons_zero, List.getElem_cons_succ, Act.put, List.setIfInBounds_toArray, List.set_cons_zero, List.set_cons_succ])
              refine wpAnyH_take (i := 16) (v := ?_) rfl (by kernel_rfl) (by kernel_rfl) (by kernel_rfl) (fun _ _ _ h => h) (Or.inl ⟨by rfl, ?_⟩) (by assumption) ?_
              rotate_left
              · intro w' hSw; (try dsimp only at hSw); (try simp only [List.getElem_toArray, List.getElem_cons_zero, List.getElem_cons_succ]); go_simp; try with_reducible rfl
              (try simp only [List.getElem_toArray, List.getElem_cons_zero, List.getElem_cons_succ, Act.put, List.setIfInBounds_toArray, List.set_cons_zero, List.set_cons_succ])
              refine wpAnyH_take (i := 17) (v := ?_) rfl (by kernel_rfl) (by kernel_rfl) (by kernel_rfl) (fun _ _ _ h => h) (Or.inl ⟨by rfl, ?_⟩) (by assumption) ?_
              rotate_left
              · intro w' hSw; (try dsimp only at hSw); (try simp only [List.getElem_toArray, List.getElem_cons_zero, List.getElem_cons_succ]); go_simp; try with_reducible rfl
              (try simp only [List.getElem_toArray, List.getElem_cons_zero, List.getElem_cons_succ, Act.put, List.setIfInBounds_toArray, List.set_cons_zero, List.set_cons_succ])
              refine wpAnyH_take (i := 18) (v := ?_) rfl (by kernel_rfl) (by kernel_rfl) (by kernel_rfl) (fun _ _ _ h => h) (Or.inl ⟨by rfl, ?_⟩) (by assumption) ?_
              rotate_left
              · intro w' hSw; (try dsimp only at hSw); (try simp only [List.getElem_toArray, List.getElem_cons_zero, List.getElem_cons_succ]); go_simp; try with_reducible rfl
              (try simp only [List.getElem_toArray, List.getElem_cons_zero, List.getElem_cons_succ, Act.put, List.setIfInBounds_toArray, List.set_cons_zero, List.set_cons_succ])
              refine wpAnyH_take (i := 19) (v := ?_) rfl (by kernel_rfl) (by kernel_rfl) (by kernel_rfl) (fun _ _ _ h => h) (Or.inl ⟨by rfl, ?_⟩) (by assumption) ?_
              rotate_left
              · intro w' hSw; (try dsimp only at hSw); (try simp only [List.getElem_toArray, List.getElem_cons_zero, List.getElem_cons_succ]); go_simp; try with_reducible rfl
              (try simp only [List.getElem_toArray, List.getElem_cons_zero, List.getElem_cons_succ, Act.put, List.setIfInBounds_toArray, List.set_cons_zero, List.set_cons_succ])
              refine wpAnyH_take (i := 20) (v := ?_) rfl (by kernel_rfl) (by kernel_rfl) (by kernel_rfl) (fun _ _ _ h => h) (Or.inl ⟨by rfl, ?_⟩) (by assumption) ?_
              rotate_left
              · intro w' hSw; (try dsimp only at hSw); (try simp only [List.getElem_toArray, List.getElem_cons_zero, List.getElem_cons_succ]); go_simp; try with_reducible rfl
              (try simp only [List.getElem_toArray, List.getElem_cons_zero, List.getElem_cons_succ, Act.put, List.setIfInBounds_toArray, List.set_cons_zero, List.set_cons_succ])
              refine wpAnyH_take (i := 21) (v := ?_) rfl (by kernel_rfl) (by kernel_rfl) (by kernel_rfl) (fun _ _ _ h => h) (Or.inl ⟨by rfl, ?_⟩) (by assumption) ?_
              rotate_left
              · intro w' hSw; (try dsimp only at hSw); (try simp only [List.getElem_toArray, List.getElem_cons_zero, List.getElem_cons_succ]); go_simp; try with_reducible rfl
              (try simp only [List.getElem_toArray, List.getElem_cons_zero, List.getElem_cons_succ, Act.put, List.setIfInBounds_toArray, List.set_cons_zero, List.set_cons_succ])
              refine wpAnyH_done (by kernel_rfl) ?_ _
              go_wp2_with fail
              go_meet
              exact ⟨rfl, Lib.hid qg⟩
        · have e8 : ((M.length : Int) == 8) = false := by rw [beq_eq_false_iff_ne]; omega
          have e8' : (M.length == 8) = false := by rw [beq_eq_false_iff_ne]; exact h8
          obtain rfl : tl = false := by have := HTL.out; simp [h8] at this; exact this
          have H8 := Lib.hid h8
          clear h8 HTL
          go_quiet (fail)
          go_wp2_with fail
          go_meet
          exact ⟨rfl, Lib.hid (below_drewN (Below.refl _ _) nq)⟩
      case rest =>
        obtain ⟨rfl, hB5⟩ := hcut
        have HCH := Lib.hid (HCH.out.below hB5.out)
        have HZ := Lib.hid (HZ.out.step0 hB5.out)
        have HX := Lib.hid (HX.out.step0 hB5.out)
        have HOW := Lib.hid (OwnG.ch (r := r) HOW.out (Ch.of hB5.out) hrX1)
        have HD := Lib.hid (HD.out.ch (Ch.of (r := r) hB5.out) hr (Nat.le_of_lt hX4))
        have RD := Lib.hid (RD.out.below hB5.out)
        clear x1 x2 x3 x4 f1 f2 f3 y1 y2 y3 y4 z2c i1 i2 i3 i4 i5 hi1 hi0 hX4 hB5 Hb HKK
        cases tl with
        | true =>
          have HLT : Hid (litT M.length ts2 = .bad (hd ts2).2.2 2) := Lib.hid (by unfold litT; rw [if_pos HTL.out.symm])
          have FL := Lib.hid (fail_ok wc r ts2 0 2 RD.out)
          have HOLb : Hid (OL = .bad (hd ts2).2.2 2) := Lib.hid (HOL.out.trans HLT.out)
          generalize (hd ts2).2.2 = ta2 at *
          clear HTL HLT
          go_wp2_with fail
          refine FL.out.mono ?_
          rintro e w6 ⟨rfl, k1, k2⟩
          have hXc := HX.out.lt
          have HCH := Lib.hid (HCH.out.trans k2)
          have HZ := Lib.hid (k2.has HZ.out hneZ)
          have HX := Lib.hid (k2.has HX.out hneX)
          have HOW := Lib.hid (OwnG.ch (r := r) HOW.out k2 hrX1)
          have HD := Lib.hid (HD.out.ch k2 hr (Nat.le_of_lt hXc))
          have RD := Lib.hid k1
          have KT : Hid (Calls Tryd.prog 82 #[.pointer (some ⟨r, 0, none⟩)] (World.drew w6) (UL r (World.drew w6) OL)) := Lib.hid (by rw [HOLb.out]; exact ul_err (RD.out.below (Below.refl _ _).drew) (by decide))
          obtain ⟨_, _, y2c, _, _, _, _⟩ := has3 HX.out
          clear k1 k2 FL HOLb hXc
          go_upto_region 7 with fail
          go_cut [] (fun wx => Hid (AftL r w X nm hp hn hc h OL M wx))
          case first =>
            clear HGO
            refine wp_region_held_drew (S := (fun _ => True)) (by kernel_rfl) trivial (fun hHeld => ?_)
            refine wpAnyH_take (i := 0) (v := ?_) rfl (by kernel_rfl) (by kernel_rfl) (by kernel_rfl) (fun _ _ _ h => h) (Or.inl ⟨by rfl, ?_⟩) (by assumption) ?_
            rotate_left
            · intro w' hSw; (try dsimp only at hSw); (try simp only [List.getElem_toArray, List.getElem_cons_zero]); go_simp; try with_reducible rfl
            (try simp only [List.getElem_toArray, List.getElem_cons_zero, Act.put, List.setIfInBounds_toArray, List.set_cons_zero, List.set_cons_succ])
            refine wpAnyH_take (i := 2) (v := ?_) rfl (by kernel_rfl) (by kernel_rfl) (by kernel_rfl) (fun _ _ _ h => h) (Or.inl ⟨by rfl, ?_⟩) (by assumption) ?_
            rotate_left
            · intro w' hSw; (try dsimp only at hSw); (try simp only [List.getElem_toArray, List.getElem_cons_zero, List.getElem_cons_succ]); go_simp; try with_reducible rfl
            (try simp only [List.getElem_toArray, List.getElem_cons_zero, List.getElem_cons_succ, Act.put, List.setIfInBounds_toArray, List.set_cons_zero, List.set_cons_succ])
            refine wpAnyH_ready (rs := [1, 3]) (by kernel_rfl) (by simp) ?_
            refine AllReadyH.cons rfl (fun K hK => ?_) (AllReadyH.cons rfl (fun K hK => ?_) AllReadyH.nil)
            · go_simp
              refine hK.out _ _ trivial (fun hHeld => ?_)
              clear hK K
              (try simp only [List.getElem_toArray, List.getElem_cons_zero, List.getElem_cons_succ, Act.put, List.setIfInBounds_toArray, List.set_cons_zero, List.set_cons_succ])
              refine wpAnyH_ready (rs := [3]) (by kernel_rfl) (by simp) ?_
              refine AllReadyH.cons rfl (fun K hK => ?_) AllReadyH.nil
              go_simp
              refine KT.out.mono ?_
              rintro e w2 ⟨lb, ln, p2, m2, c2, rfl, hC2, hF2⟩
              have CC2 : Hid (Ch r w6 w2) := Lib.hid (Ch.trans (Ch.of (Below.refl _ _).drew) hC2)
              have FF2 : Hid (FctL r w6 w2 OL lb ln p2 m2 c2) := Lib.hid hF2
              have q1 : w2.cell? ⟨X, 2, none⟩ = some (.slice va M.length vc) := (hC2.has HX.out hneX).cell 2
              have q0 : X < w2.heap.size := (hC2.has HX.out hneX).lt
              clear hC2 hF2
              refine hK.out _ _ trivial (fun hHeld => ?_)
              clear hK K
              (try simp only [List.getElem_toArray, List.getElem_cons_zero, List.getElem_cons_succ, Act.put, List.setIfInBounds_toArray, List.set_cons_zero, List.set_cons_succ])
              refine wpAnyH_ready (rs := [4]) (by kernel_rfl) (by simp) ?_
              refine AllReadyH.cons rfl (fun K hK => ?_) AllReadyH.nil
              go_simp
              refine hK.out _ _ trivial (fun hHeld => ?_)
              clear hK K
              (try simp only [List.getElem_toArray, List.getElem_cons_zero, List.getElem_cons_succ, Act.put, List.setIfInBounds_toArray, List.set_cons_zero, List.set_cons_succ])
              refine wpAnyH_ready (rs := [5]) (by kernel_rfl) (by simp) ?_
              refine AllReadyH.cons rfl (fun K hK => ?_) AllReadyH.nil
              have hXw : X < (w6).heap.size := HX.out.lt
              have A3 : X + 1 ≤ (w2.alloc (.cells #[.bool lb, .string ln, .slice p2 m2 c2] 32)).heap.size := by rw [World.size_alloc]; omega
              refine Eq.mpr (if_pos (by rfl)) ?_
              refine wp_append_lies _ (.tmp 51) (.tmp 54) 25 rfl (X + 1) 32 i0 (.agg #[.bool false, .string ⟨#[]⟩, .slice none 0 0]) 3 48 Tryd.underlying25 HI.out.1 HI.out.2.1 HI.out.2.2.1 HI.out.2.2.2 rfl (by decide) (.slice va M.length vc) M.length (KL.flat M) rfl ((HOW.out.ch CC2.out hrX1).1.alloc _) ⟨w2.heap.size, 0, none⟩ 1 1 [.bool lb, .string ln, .slice p2 m2 c2] rfl rfl (newsK _ _ _ _ _) (one_L _ _ _ _ _) (by decide) A1.out A2.out A3 (w2.heap.size + 1) (by simp) ?_
              intro g5 cap5 w4x hown hgrow hat hlt5
              have HAF := Lib.hid (aftL_of (M := M) hr hX HCH.out HZ.out HD.out HX.out HOW.out CC2.out FF2.out hown hgrow hat)
              have hq : Has w4x X #[.string nm, .slice hp hn hc, .slice va M.length vc] := RefC0.Has.grown ((CC2.out.has HX.out hneX).alloc _) hgrow (fun e => by have := (HOW.out.1.lt _ e).1; omega)
              obtain ⟨q2, q3, q4, q5, q6, q7, q8⟩ := has3 hq
              clear hown hgrow hat hq q1 q0
              refine hK.out _ _ trivial (fun hHeld => ?_)
              clear hK K
              (try simp only [List.getElem_toArray, List.getElem_cons_zero, List.getElem_cons_succ, Act.put, List.setIfInBounds_toArray, List.set_cons_zero, List.set_cons_succ])
              refine wpAnyH_take (i := 6) (v := ?_) rfl (by kernel_rfl) (by kernel_rfl) (by kernel_rfl) (fun _ _ _ h => h) (Or.inl ⟨by rfl, ?_⟩) (by assumption) ?_
              rotate_left
              · intro w' hSw; (try dsimp only at hSw); (try simp only [List.getElem_toArray, List.getElem_cons_zero, List.getElem_cons_succ]); go_simp; try with_reducible rfl
              (try simp only [List.getElem_toArray, List.getElem_cons_zero, List.getElem_cons_succ, Act.put, List.setIfInBounds_toArray, List.set_cons_zero, List.set_cons_succ])
              refine wpAnyH_ready (rs := [7]) (by kernel_rfl) (by simp) ?_
              refine AllReadyH.cons rfl (fun K hK => ?_) AllReadyH.nil
              go_simp
              refine hK.out _ _ trivial (fun hHeld => ?_)
              clear hK K
              (try simp only [List.getElem_toArray, List.getElem_cons_zero, List.getElem_cons_succ, Act.put, List.setIfInBounds_toArray, List.set_cons_zero, List.set_cons_succ])
              refine wpAnyH_done (by kernel_rfl) ?_ _
              go_wp2_with fail
              go_meet
              exact HAF
            · go_simp
              refine KT.out.mono ?_
              rintro e w2 ⟨lb, ln, p2, m2, c2, rfl, hC2, hF2⟩
              have CC2 : Hid (Ch r w6 w2) := Lib.hid (Ch.trans (Ch.of (Below.refl _ _).drew) hC2)
              have FF2 : Hid (FctL r w6 w2 OL lb ln p2 m2 c2) := Lib.hid hF2
              have q1 : w2.cell? ⟨X, 2, none⟩ = some (.slice va M.length vc) := (hC2.has HX.out hneX).cell 2
              have q0 : X < w2.heap.size := (hC2.has HX.out hneX).lt
              clear hC2 hF2
              refine hK.out _ _ trivial (fun hHeld => ?_)
              clear hK K
              (try simp only [List.getElem_toArray, List.getElem_cons_zero, List.getElem_cons_succ, Act.put, List.setIfInBounds_toArray, List.set_cons_zero, List.set_cons_succ])
              refine wpAnyH_ready (rs := [1, 4]) (by kernel_rfl) (by simp) ?_
              refine AllReadyH.cons rfl (fun K hK => ?_) (AllReadyH.cons rfl (fun K hK => ?_) AllReadyH.nil)
              · go_simp
                refine hK.out _ _ trivial (fun hHeld => ?_)
                clear hK K
                (try simp only [List.getElem_toArray, List.getElem_cons_zero, List.getElem_cons_succ, Act.put, List.setIfInBounds_toArray, List.set_cons_zero, List.set_cons_succ])
                refine wpAnyH_ready (rs := [4]) (by kernel_rfl) (by simp) ?_
                refine AllReadyH.cons rfl (fun K hK => ?_) AllReadyH.nil
                go_simp
                refine hK.out _ _ trivial (fun hHeld => ?_)
                clear hK K
                (try simp only [List.getElem_toArray, List.getElem_cons_zero, List.getElem_cons_succ, Act.put, List.setIfInBounds_toArray, List.set_cons_zero, List.set_cons_succ])
                refine wpAnyH_ready (rs := [5]) (by kernel_rfl) (by simp) ?_
                refine AllReadyH.cons rfl (fun K hK => ?_) AllReadyH.nil
                have hXw : X < (w6).heap.size := HX.out.lt
                have A3 : X + 1 ≤ (w2.alloc (.cells #[.bool lb, .string ln, .slice p2 m2 c2] 32)).heap.size := by rw [World.size_alloc]; omega
                refine Eq.mpr (if_pos (by rfl)) ?_
                refine wp_append_lies _ (.tmp 51) (.tmp 54) 25 rfl (X + 1) 32 i0 (.agg #[.bool false, .string ⟨#[]⟩, .slice none 0 0]) 3 48 Tryd.underlying25 HI.out.1 HI.out.2.1 HI.out.2.2.1 HI.out.2.2.2 rfl (by decide) (.slice va M.length vc) M.length (KL.flat M) rfl ((HOW.out.ch CC2.out hrX1).1.alloc _) ⟨w2.heap.size, 0, none⟩ 1 1 [.bool lb, .string ln, .slice p2 m2 c2] rfl rfl (newsK _ _ _ _ _) (one_L _ _ _ _ _) (by decide) A1.out A2.out A3 (w2.heap.size + 1) (by simp) ?_
                intro g5 cap5 w4x hown hgrow hat hlt5
                have HAF := Lib.hid (aftL_of (M := M) hr hX HCH.out HZ.out HD.out HX.out HOW.out CC2.out FF2.out hown hgrow hat)
                have hq : Has w4x X #[.string nm, .slice hp hn hc, .slice va M.length vc] := RefC0.Has.grown ((CC2.out.has HX.out hneX).alloc _) hgrow (fun e => by have := (HOW.out.1.lt _ e).1; omega)
                obtain ⟨q2, q3, q4, q5, q6, q7, q8⟩ := has3 hq
                clear hown hgrow hat hq q1 q0
                refine hK.out _ _ trivial (fun hHeld => ?_)
                clear hK K
                (try simp only [List.getElem_toArray, List.getElem_cons_zero, List.getElem_cons_succ, Act.put, List.setIfInBounds_toArray, List.set_cons_zero, List.set_cons_succ])
                refine wpAnyH_take (i := 6) (v := ?_) rfl (by kernel_rfl) (by kernel_rfl) (by kernel_rfl) (fun _ _ _ h => h) (Or.inl ⟨by rfl, ?_⟩) (by assumption) ?_
                rotate_left
                · intro w' hSw; (try dsimp only at hSw); (try simp only [List.getElem_toArray, List.getElem_cons_zero, List.getElem_cons_succ]); go_simp; try with_reducible rfl
                (try simp only [List.getElem_toArray, List.getElem_cons_zero, List.getElem_cons_succ, Act.put, List.setIfInBounds_toArray, List.set_cons_zero, List.set_cons_succ])
                refine wpAnyH_ready (rs := [7]) (by kernel_rfl) (by simp) ?_
                refine AllReadyH.cons rfl (fun K hK => ?_) AllReadyH.nil
                go_simp
                refine hK.out _ _ trivial (fun hHeld => ?_)
                clear hK K
                (try simp only [List.getElem_toArray, List.getElem_cons_zero, List.getElem_cons_succ, Act.put, List.setIfInBounds_toArray, List.set_cons_zero, List.set_cons_succ])
                refine wpAnyH_done (by kernel_rfl) ?_ _
                go_wp2_with fail
                go_meet
                exact HAF
              · go_simp
                refine hK.out _ _ trivial (fun hHeld => ?_)
                clear hK K
                (try simp only [List.getElem_toArray, List.getElem_cons_zero, List.getElem_cons_succ, Act.put, List.setIfInBounds_toArray, List.set_cons_zero, List.set_cons_succ])
                refine wpAnyH_ready (rs := [1]) (by kernel_rfl) (by simp) ?_
                refine AllReadyH.cons rfl (fun K hK => ?_) AllReadyH.nil
                go_simp
                refine hK.out _ _ trivial (fun hHeld => ?_)
                clear hK K
                (try simp only [List.getElem_toArray, List.getElem_cons_zero, List.getElem_cons_succ, Act.put, List.setIfInBounds_toArray, List.set_cons_zero, List.set_cons_succ])
                refine wpAnyH_ready (rs := [5]) (by kernel_rfl) (by simp) ?_
                refine AllReadyH.cons rfl (fun K hK => ?_) AllReadyH.nil
                have hXw : X < (w6).heap.size := HX.out.lt
                have A3 : X + 1 ≤ (w2.alloc (.cells #[.bool lb, .string ln, .slice p2 m2 c2] 32)).heap.size := by rw [World.size_alloc]; omega
                refine Eq.mpr (if_pos (by rfl)) ?_
                refine wp_append_lies _ (.tmp 51) (.tmp 54) 25 rfl (X + 1) 32 i0 (.agg #[.bool false, .string ⟨#[]⟩, .slice none 0 0]) 3 48 Tryd.underlying25 HI.out.1 HI.out.2.1 HI.out.2.2.1 HI.out.2.2.2 rfl (by decide) (.slice va M.length vc) M.length (KL.flat M) rfl ((HOW.out.ch CC2.out hrX1).1.alloc _) ⟨w2.heap.size, 0, none⟩ 1 1 [.bool lb, .string ln, .slice p2 m2 c2] rfl rfl (newsK _ _ _ _ _) (one_L _ _ _ _ _) (by decide) A1.out A2.out A3 (w2.heap.size + 1) (by simp) ?_
                intro g5 cap5 w4x hown hgrow hat hlt5
                have HAF := Lib.hid (aftL_of (M := M) hr hX HCH.out HZ.out HD.out HX.out HOW.out CC2.out FF2.out hown hgrow hat)
                have hq : Has w4x X #[.string nm, .slice hp hn hc, .slice va M.length vc] := RefC0.Has.grown ((CC2.out.has HX.out hneX).alloc _) hgrow (fun e => by have := (HOW.out.1.lt _ e).1; omega)
                obtain ⟨q2, q3, q4, q5, q6, q7, q8⟩ := has3 hq
                clear hown hgrow hat hq q1 q0
                refine hK.out _ _ trivial (fun hHeld => ?_)
                clear hK K
                (try simp only [List.getElem_toArray, List.getElem_cons_zero, List.getElem_cons_succ, Act.put, List.setIfInBounds_toArray, List.set_cons_zero, List.set_cons_succ])
                refine wpAnyH_take (i := 6) (v := ?_) rfl (by kernel_rfl) (by kernel_rfl) (by kernel_rfl) (fun _ _ _ h => h) (Or.inl ⟨by rfl, ?_⟩) (by assumption) ?_
                rotate_left
                · intro w' hSw; (try dsimp only at hSw); (try simp only [List.getElem_toArray, List.getElem_cons_zero, List.getElem_cons_succ]); go_simp; try with_reducible rfl
                (try simp only [List.getElem_toArray, List.getElem_cons_zero, List.getElem_cons_succ, Act.put, List.setIfInBounds_toArray, List.set_cons_zero, List.set_cons_succ])
                refine wpAnyH_ready (rs := [7]) (by kernel_rfl) (by simp) ?_
                refine AllReadyH.cons rfl (fun K hK => ?_) AllReadyH.nil
                go_simp
                refine hK.out _ _ trivial (fun hHeld => ?_)
                clear hK K
                (try simp only [List.getElem_toArray, List.getElem_cons_zero, List.getElem_cons_succ, Act.put, List.setIfInBounds_toArray, List.set_cons_zero, List.set_cons_succ])
                refine wpAnyH_done (by kernel_rfl) ?_ _
                go_wp2_with fail
                go_meet
                exact HAF
          case rest =>
            obtain ⟨hC6, hZ6, hX6, hA6⟩ := hcut.out
            have C6 := Lib.hid hC6
            have Z6 := Lib.hid hZ6
            have X6 := Lib.hid hX6
            clear hC6 hZ6 hX6 hcut KT HCH HZ HX HOW RD HD
            rcases hA6 with ⟨x6, tk6, v6, u6, hf6, hD6, hO6, hT6, hR6⟩ | ⟨a6, er6, p6, m6, c6, tk6, hf6, her6, hT6, hR6⟩
            · have hl8 := litT_len hf6 HOL.out HM8.out
              have hlm6 : (M ++ [(x6, u6)]).length = M.length + 1 := by simp
              have HOM : Hid (O = (if isB (hd tk6) sAnd = true then goL ((M ++ [(x6, u6)]).map (·.1)) tk6.tail else .good ((M ++ [(x6, u6)]).map (·.1)) tk6).then (fin h)) := Lib.hid (by
                rw [← lits_go _ tk6 (by simp) (by rw [List.length_map, hlm6]; omega), HGO.out, hf6]
                show (litsF (8 - M.length) (M.map (·.1) ++ [x6]) tk6).then (fin h) = _
                simp only [List.map_append, List.map_cons, List.map_nil, List.length_append, List.length_map, List.length_cons, List.length_nil]
                rw [show 9 - (M.length + (0 + 1)) = 8 - M.length by omega])
              have T6 := Lib.hid hT6
              have R6 := Lib.hid hR6
              have O6 := Lib.hid hO6
              have D6 := Lib.hid hD6
              have HL6 := Lib.hid (And.intro hl8 hlm6)
              clear hf6 hT6 hR6 hO6 hD6 HGO hl8 hlm6 HOL
              generalize M ++ [(x6, u6)] = M6 at *
              cases han : isB (hd tk6) sAnd with
              | true =>
                have HOG : Hid (O = (goL (M6.map (·.1)) tk6.tail).then (fin h)) := Lib.hid (by rw [HOM.out, han]; rfl)
                have I6 := Lib.hid (is_yes wc r tk6 0 sAnd (Or.inr (Or.inr (Or.inr (Or.inr (Or.inr (Or.inl rfl)))))) R6.out han)
                have NE := Lib.hid (isB_ne han lit_ne.2.2.2.2.2.1)
                clear HOM han
                go_wp2_with fail
                refine I6.out.mono ?_
                rintro e w7 ⟨rfl, k7⟩
                have FIN := Lib.hid (show LU r w X nm hp hn hc h O (gk - 1) true w7 from ⟨C6.out.below k7, Z6.out.step0 k7, Nat.lt_of_lt_of_le X6.out k7.size, Or.inl ⟨rfl, M6, v6, tk6, D6.out.frame (fun b o _ h2 => k7.cell (p := ⟨b, o, none⟩) (Nat.lt_trans h2 X6.out)), by have := HL6.out.1; have := HL6.out.2; have := HMG.out; omega, by have := HL6.out.1; have := HL6.out.2; omega, HOG.out, NE.out, OwnG.ch (r := r) O6.out (Ch.of k7) hrX1, T6.out.step0 k7, R6.out.below k7⟩⟩)
                have hgk : 1 ≤ gk := by have := HMG.out; have := HM8.out; omega
                clear k7 I6
                go_wp2_with fail
                go_roundg (gk - 1)
                case rel => exact ⟨true, rfl, FIN⟩
                case measure => omega
              | false =>
                have HOG : Hid (O = fin h (M6.map (·.1)) tk6) := Lib.hid (by rw [HOM.out, han]; rfl)
                have I6 := Lib.hid (is_no wc r tk6 0 sAnd R6.out han)
                clear HOM han
                go_wp2_with fail
                refine I6.out.mono ?_
                rintro e w7 ⟨rfl, k7⟩
                have FIN := Lib.hid (show LU r w X nm hp hn hc h O (gk - 1) false w7 from ⟨C6.out.below k7, Z6.out.step0 k7, Nat.lt_of_lt_of_le X6.out k7.size, Or.inr (Or.inl ⟨rfl, M6, v6, tk6, D6.out.frame (fun b o _ h2 => k7.cell (p := ⟨b, o, none⟩) (Nat.lt_trans h2 X6.out)), HOG.out, OwnG.ch (r := r) O6.out (Ch.of k7) hrX1, T6.out.step0 k7, R6.out.below k7⟩)⟩)
                have hgk : 1 ≤ gk := by have := HMG.out; have := HM8.out; omega
                clear k7 I6
                go_wp2_with fail
                go_roundg (gk - 1)
                case rel => exact ⟨false, rfl, FIN⟩
                case measure => omega
            · have HOB : Hid (O = .bad a6 er6) := Lib.hid (by rw [HGO.out, hf6]; rfl)
              have I6 := Lib.hid (is_err wc r tk6 a6 er6 sAnd hR6 her6)
              have T6 := Lib.hid hT6
              have R6 := Lib.hid hR6
              have E6 := Lib.hid her6
              clear hf6 hT6 hR6 her6 HGO HOL
              go_wp2_with fail
              refine I6.out.mono ?_
              rintro e w7 ⟨rfl, k7⟩
              have FIN := Lib.hid (show LU r w X nm hp hn hc h O (gk - 1) false w7 from ⟨C6.out.below k7, Z6.out.step0 k7, Nat.lt_of_lt_of_le X6.out k7.size, Or.inr (Or.inr ⟨rfl, p6, m6, c6, tk6, a6, er6, HOB.out, E6.out, T6.out.step0 k7, R6.out.below k7⟩)⟩)
              have hgk : 1 ≤ gk := by have := HMG.out; have := HM8.out; omega
              clear k7 I6
              go_wp2_with fail
              go_roundg (gk - 1)
              case rel => exact ⟨false, rfl, FIN⟩
              case measure => omega
        | false =>
          have KT : Hid (Calls Tryd.prog 82 #[.pointer (some ⟨r, 0, none⟩)] (World.drew wc) (UL r (World.drew wc) OL)) := Lib.hid (by
            have e : OL = litF ts2 := HOL.out.trans (by unfold litT; rw [if_neg (by rw [← HTL.out]; decide)])
            rw [e]; exact ul_ok (RD.out.below (Below.refl _ _).drew))
          obtain ⟨_, _, y2c, _, _, _, _⟩ := has3 HX.out
          clear HTL
          go_upto_region 7 with fail
          go_cut [] (fun wx => Hid (AftL r w X nm hp hn hc h OL M wx))
          case first =>
            clear HGO
            refine wp_region_held_drew (S := (fun _ => True)) (by kernel_rfl) trivial (fun hHeld => ?_)
            refine wpAnyH_take (i := 0) (v := ?_) rfl (by kernel_rfl) (by kernel_rfl) (by kernel_rfl) (fun _ _ _ h => h) (Or.inl ⟨by rfl, ?_⟩) (by assumption) ?_
            rotate_left
            · intro w' hSw; (try dsimp only at hSw); (try simp only [List.getElem_toArray, List.getElem_cons_zero]); go_simp; try with_reducible rfl
            (try simp only [List.getElem_toArray, List.getElem_cons_zero, Act.put, List.setIfInBounds_toArray, List.set_cons_zero, List.set_cons_succ])
            refine wpAnyH_take (i := 2) (v := ?_) rfl (by kernel_rfl) (by kernel_rfl) (by kernel_rfl) (fun _ _ _ h => h) (Or.inl ⟨by rfl, ?_⟩) (by assumption) ?_
            rotate_left
            · intro w' hSw; (try dsimp only at hSw); (try simp only [List.getElem_toArray, List.getElem_cons_zero, List.getElem_cons_succ]); go_simp; try with_reducible rfl
            (try simp only [List.getElem_toArray, List.getElem_cons_zero, List.getElem_cons_succ, Act.put, List.setIfInBounds_toArray, List.set_cons_zero, List.set_cons_succ])
            refine wpAnyH_ready (rs := [1, 3]) (by kernel_rfl) (by simp) ?_
            refine AllReadyH.cons rfl (fun K hK => ?_) (AllReadyH.cons rfl (fun K hK => ?_) AllReadyH.nil)
            · go_simp
              refine hK.out _ _ trivial (fun hHeld => ?_)
              clear hK K
              (try simp only [List.getElem_toArray, List.getElem_cons_zero, List.getElem_cons_succ, Act.put, List.setIfInBounds_toArray, List.set_cons_zero, List.set_cons_succ])
              refine wpAnyH_ready (rs := [3]) (by kernel_rfl) (by simp) ?_
              refine AllReadyH.cons rfl (fun K hK => ?_) AllReadyH.nil
              go_simp
              refine KT.out.mono ?_
              rintro e w2 ⟨lb, ln, p2, m2, c2, rfl, hC2, hF2⟩
              have CC2 : Hid (Ch r wc w2) := Lib.hid (Ch.trans (Ch.of (Below.refl _ _).drew) hC2)
              have FF2 : Hid (FctL r wc w2 OL lb ln p2 m2 c2) := Lib.hid hF2
              have q1 : w2.cell? ⟨X, 2, none⟩ = some (.slice va M.length vc) := (hC2.has HX.out hneX).cell 2
              have q0 : X < w2.heap.size := (hC2.has HX.out hneX).lt
              clear hC2 hF2
              refine hK.out _ _ trivial (fun hHeld => ?_)
              clear hK K
              (try simp only [List.getElem_toArray, List.getElem_cons_zero, List.getElem_cons_succ, Act.put, List.setIfInBounds_toArray, List.set_cons_zero, List.set_cons_succ])
              refine wpAnyH_ready (rs := [4]) (by kernel_rfl) (by simp) ?_
              refine AllReadyH.cons rfl (fun K hK => ?_) AllReadyH.nil
              go_simp
              refine hK.out _ _ trivial (fun hHeld => ?_)
              clear hK K
              (try simp only [List.getElem_toArray, List.getElem_cons_zero, List.getElem_cons_succ, Act.put, List.setIfInBounds_toArray, List.set_cons_zero, List.set_cons_succ])
              refine wpAnyH_ready (rs := [5]) (by kernel_rfl) (by simp) ?_
              refine AllReadyH.cons rfl (fun K hK => ?_) AllReadyH.nil
              have hXw : X < (wc).heap.size := HX.out.lt
              have A3 : X + 1 ≤ (w2.alloc (.cells #[.bool lb, .string ln, .slice p2 m2 c2] 32)).heap.size := by rw [World.size_alloc]; omega
              refine Eq.mpr (if_pos (by rfl)) ?_
              refine wp_append_lies _ (.tmp 51) (.tmp 54) 25 rfl (X + 1) 32 i0 (.agg #[.bool false, .string ⟨#[]⟩, .slice none 0 0]) 3 48 Tryd.underlying25 HI.out.1 HI.out.2.1 HI.out.2.2.1 HI.out.2.2.2 rfl (by decide) (.slice va M.length vc) M.length (KL.flat M) rfl ((HOW.out.ch CC2.out hrX1).1.alloc _) ⟨w2.heap.size, 0, none⟩ 1 1 [.bool lb, .string ln, .slice p2 m2 c2] rfl rfl (newsK _ _ _ _ _) (one_L _ _ _ _ _) (by decide) A1.out A2.out A3 (w2.heap.size + 1) (by simp) ?_
              intro g5 cap5 w4x hown hgrow hat hlt5
              have HAF := Lib.hid (aftL_of (M := M) hr hX HCH.out HZ.out HD.out HX.out HOW.out CC2.out FF2.out hown hgrow hat)
              have hq : Has w4x X #[.string nm, .slice hp hn hc, .slice va M.length vc] := RefC0.Has.grown ((CC2.out.has HX.out hneX).alloc _) hgrow (fun e => by have := (HOW.out.1.lt _ e).1; omega)
              obtain ⟨q2, q3, q4, q5, q6, q7, q8⟩ := has3 hq
              clear hown hgrow hat hq q1 q0
              refine hK.out _ _ trivial (fun hHeld => ?_)
              clear hK K
              (try simp only [List.getElem_toArray, List.getElem_cons_zero, List.getElem_cons_succ, Act.put, List.setIfInBounds_toArray, List.set_cons_zero, List.set_cons_succ])
              refine wpAnyH_take (i := 6) (v := ?_) rfl (by kernel_rfl) (by kernel_rfl) (by kernel_rfl) (fun _ _ _ h => h) (Or.inl ⟨by rfl, ?_⟩) (by assumption) ?_
              rotate_left
              · intro w' hSw; (try dsimp only at hSw); (try simp only [List.getElem_toArray, List.getElem_cons_zero, List.getElem_cons_succ]); go_simp; try with_reducible rfl
              (try simp only [List.getElem_toArray, List.getElem_cons_zero, List.getElem_cons_succ, Act.put, List.setIfInBounds_toArray, List.set_cons_zero, List.set_cons_succ])
              refine wpAnyH_ready (rs := [7]) (by kernel_rfl) (by simp) ?_
              refine AllReadyH.cons rfl (fun K hK => ?_) AllReadyH.nil
              go_simp
              refine hK.out _ _ trivial (fun hHeld => ?_)
              clear hK K
              (try simp only [List.getElem_toArray, List.getElem_cons_zero, List.getElem_cons_succ, Act.put, List.setIfInBounds_toArray, List.set_cons_zero, List.set_cons_succ])
              refine wpAnyH_done (by kernel_rfl) ?_ _
              go_wp2_with fail
              go_meet
              exact HAF
            · go_simp
              refine KT.out.mono ?_
              rintro e w2 ⟨lb, ln, p2, m2, c2, rfl, hC2, hF2⟩
              have CC2 : Hid (Ch r wc w2) := Lib.hid (Ch.trans (Ch.of (Below.refl _ _).drew) hC2)
              have FF2 : Hid (FctL r wc w2 OL lb ln p2 m2 c2) := Lib.hid hF2
              have q1 : w2.cell? ⟨X, 2, none⟩ = some (.slice va M.length vc) := (hC2.has HX.out hneX).cell 2
              have q0 : X < w2.heap.size := (hC2.has HX.out hneX).lt
              clear hC2 hF2
              refine hK.out _ _ trivial (fun hHeld => ?_)
              clear hK K
              (try simp only [List.getElem_toArray, List.getElem_cons_zero, List.getElem_cons_succ, Act.put, List.setIfInBounds_toArray, List.set_cons_zero, List.set_cons_succ])
              refine wpAnyH_ready (rs := [1, 4]) (by kernel_rfl) (by simp) ?_
              refine AllReadyH.cons rfl (fun K hK => ?_) (AllReadyH.cons rfl (fun K hK => ?_) AllReadyH.nil)
              · go_simp
                refine hK.out _ _ trivial (fun hHeld => ?_)
                clear hK K
                (try simp only [List.getElem_toArray, List.getElem_cons_zero, List.getElem_cons_succ, Act.put, List.setIfInBounds_toArray, List.set_cons_zero, List.set_cons_succ])
                refine wpAnyH_ready (rs := [4]) (by kernel_rfl) (by simp) ?_
                refine AllReadyH.cons rfl (fun K hK => ?_) AllReadyH.nil
                go_simp
                refine hK.out _ _ trivial (fun hHeld => ?_)
                clear hK K
                (try simp only [List.getElem_toArray, List.getElem_cons_zero, List.getElem_cons_succ, Act.put, List.setIfInBounds_toArray, List.set_cons_zero, List.set_cons_succ])
                refine wpAnyH_ready (rs := [5]) (by kernel_rfl) (by simp) ?_
                refine AllReadyH.cons rfl (fun K hK => ?_) AllReadyH.nil
                have hXw : X < (wc).heap.size := HX.out.lt
                have A3 : X + 1 ≤ (w2.alloc (.cells #[.bool lb, .string ln, .slice p2 m2 c2] 32)).heap.size := by rw [World.size_alloc]; omega
                refine Eq.mpr (if_pos (by rfl)) ?_
                refine wp_append_lies _ (.tmp 51) (.tmp 54) 25 rfl (X + 1) 32 i0 (.agg #[.bool false, .string ⟨#[]⟩, .slice none 0 0]) 3 48 Tryd.underlying25 HI.out.1 HI.out.2.1 HI.out.2.2.1 HI.out.2.2.2 rfl (by decide) (.slice va M.length vc) M.length (KL.flat M) rfl ((HOW.out.ch CC2.out hrX1).1.alloc _) ⟨w2.heap.size, 0, none⟩ 1 1 [.bool lb, .string ln, .slice p2 m2 c2] rfl rfl (newsK _ _ _ _ _) (one_L _ _ _ _ _) (by decide) A1.out A2.out A3 (w2.heap.size + 1) (by simp) ?_
                intro g5 cap5 w4x hown hgrow hat hlt5
                have HAF := Lib.hid (aftL_of (M := M) hr hX HCH.out HZ.out HD.out HX.out HOW.out CC2.out FF2.out hown hgrow hat)
                have hq : Has w4x X #[.string nm, .slice hp hn hc, .slice va M.length vc] := RefC0.Has.grown ((CC2.out.has HX.out hneX).alloc _) hgrow (fun e => by have := (HOW.out.1.lt _ e).1; omega)
                obtain ⟨q2, q3, q4, q5, q6, q7, q8⟩ := has3 hq
                clear hown hgrow hat hq q1 q0
                refine hK.out _ _ trivial (fun hHeld => ?_)
                clear hK K
                (try simp only [List.getElem_toArray, List.getElem_cons_zero, List.getElem_cons_succ, Act.put, List.setIfInBounds_toArray, List.set_cons_zero, List.set_cons_succ])
                refine wpAnyH_take (i := 6) (v := ?_) rfl (by kernel_rfl) (by kernel_rfl) (by kernel_rfl) (fun _ _ _ h => h) (Or.inl ⟨by rfl, ?_⟩) (by assumption) ?_
                rotate_left
                · intro w' hSw; (try dsimp only at hSw); (try simp only [List.getElem_toArray, List.getElem_cons_zero, List.getElem_cons_succ]); go_simp; try with_reducible rfl
                (try simp only [List.getElem_toArray, List.getElem_cons_zero, List.getElem_cons_succ, Act.put, List.setIfInBounds_toArray, List.set_cons_zero, List.set_cons_succ])
                refine wpAnyH_ready (rs := [7]) (by kernel_rfl) (by simp) ?_
                refine AllReadyH.cons rfl (fun K hK => ?_) AllReadyH.nil
                go_simp
                refine hK.out _ _ trivial (fun hHeld => ?_)
                clear hK K
                (try simp only [List.getElem_toArray, List.getElem_cons_zero, List.getElem_cons_succ, Act.put, List.setIfInBounds_toArray, List.set_cons_zero, List.set_cons_succ])
                refine wpAnyH_done (by kernel_rfl) ?_ _
                go_wp2_with fail
                go_meet
                exact HAF
              · go_simp
                refine hK.out _ _ trivial (fun hHeld => ?_)
                clear hK K
                (try simp only [List.getElem_toArray, List.getElem_cons_zero, List.getElem_cons_succ, Act.put, List.setIfInBounds_toArray, List.set_cons_zero, List.set_cons_succ])
                refine wpAnyH_ready (rs := [1]) (by kernel_rfl) (by simp) ?_
                refine AllReadyH.cons rfl (fun K hK => ?_) AllReadyH.nil
                go_simp
                refine hK.out _ _ trivial (fun hHeld => ?_)
                clear hK K
                (try simp only [List.getElem_toArray, List.getElem_cons_zero, List.getElem_cons_succ, Act.put, List.setIfInBounds_toArray, List.set_cons_zero, List.set_cons_succ])
                refine wpAnyH_ready (rs := [5]) (by kernel_rfl) (by simp) ?_
                refine AllReadyH.cons rfl (fun K hK => ?_) AllReadyH.nil
                have hXw : X < (wc).heap.size := HX.out.lt
                have A3 : X + 1 ≤ (w2.alloc (.cells #[.bool lb, .string ln, .slice p2 m2 c2] 32)).heap.size := by rw [World.size_alloc]; omega
                refine Eq.mpr (if_pos (by rfl)) ?_
                refine wp_append_lies _ (.tmp 51) (.tmp 54) 25 rfl (X + 1) 32 i0 (.agg #[.bool false, .string ⟨#[]⟩, .slice none 0 0]) 3 48 Tryd.underlying25 HI.out.1 HI.out.2.1 HI.out.2.2.1 HI.out.2.2.2 rfl (by decide) (.slice va M.length vc) M.length (KL.flat M) rfl ((HOW.out.ch CC2.out hrX1).1.alloc _) ⟨w2.heap.size, 0, none⟩ 1 1 [.bool lb, .string ln, .slice p2 m2 c2] rfl rfl (newsK _ _ _ _ _) (one_L _ _ _ _ _) (by decide) A1.out A2.out A3 (w2.heap.size + 1) (by simp) ?_
                intro g5 cap5 w4x hown hgrow hat hlt5
                have HAF := Lib.hid (aftL_of (M := M) hr hX HCH.out HZ.out HD.out HX.out HOW.out CC2.out FF2.out hown hgrow hat)
                have hq : Has w4x X #[.string nm, .slice hp hn hc, .slice va M.length vc] := RefC0.Has.grown ((CC2.out.has HX.out hneX).alloc _) hgrow (fun e => by have := (HOW.out.1.lt _ e).1; omega)
                obtain ⟨q2, q3, q4, q5, q6, q7, q8⟩ := has3 hq
                clear hown hgrow hat hq q1 q0
                refine hK.out _ _ trivial (fun hHeld => ?_)
                clear hK K
                (try simp only [List.getElem_toArray, List.getElem_cons_zero, List.getElem_cons_succ, Act.put, List.setIfInBounds_toArray, List.set_cons_zero, List.set_cons_succ])
                refine wpAnyH_take (i := 6) (v := ?_) rfl (by kernel_rfl) (by kernel_rfl) (by kernel_rfl) (fun _ _ _ h => h) (Or.inl ⟨by rfl, ?_⟩) (by assumption) ?_
                rotate_left
                · intro w' hSw; (try dsimp only at hSw); (try simp only [List.getElem_toArray, List.getElem_cons_zero, List.getElem_cons_succ]); go_simp; try with_reducible rfl
                (try simp only [List.getElem_toArray, List.getElem_cons_zero, List.getElem_cons_succ, Act.put, List.setIfInBounds_toArray, List.set_cons_zero, List.set_cons_succ])
                refine wpAnyH_ready (rs := [7]) (by kernel_rfl) (by simp) ?_
                refine AllReadyH.cons rfl (fun K hK => ?_) AllReadyH.nil
                go_simp
                refine hK.out _ _ trivial (fun hHeld => ?_)
                clear hK K
                (try simp only [List.getElem_toArray, List.getElem_cons_zero, List.getElem_cons_succ, Act.put, List.setIfInBounds_toArray, List.set_cons_zero, List.set_cons_succ])
                refine wpAnyH_done (by kernel_rfl) ?_ _
                go_wp2_with fail
                go_meet
                exact HAF
          case rest =>
            obtain ⟨hC6, hZ6, hX6, hA6⟩ := hcut.out
            have C6 := Lib.hid hC6
            have Z6 := Lib.hid hZ6
            have X6 := Lib.hid hX6
            clear hC6 hZ6 hX6 hcut KT HCH HZ HX HOW RD HD
            rcases hA6 with ⟨x6, tk6, v6, u6, hf6, hD6, hO6, hT6, hR6⟩ | ⟨a6, er6, p6, m6, c6, tk6, hf6, her6, hT6, hR6⟩
            · have hl8 := litT_len hf6 HOL.out HM8.out
              have hlm6 : (M ++ [(x6, u6)]).length = M.length + 1 := by simp
              have HOM : Hid (O = (if isB (hd tk6) sAnd = true then goL ((M ++ [(x6, u6)]).map (·.1)) tk6.tail else .good ((M ++ [(x6, u6)]).map (·.1)) tk6).then (fin h)) := Lib.hid (by
                rw [← lits_go _ tk6 (by simp) (by rw [List.length_map, hlm6]; omega), HGO.out, hf6]
                show (litsF (8 - M.length) (M.map (·.1) ++ [x6]) tk6).then (fin h) = _
                simp only [List.map_append, List.map_cons, List.map_nil, List.length_append, List.length_map, List.length_cons, List.length_nil]
                rw [show 9 - (M.length + (0 + 1)) = 8 - M.length by omega])
              have T6 := Lib.hid hT6
              have R6 := Lib.hid hR6
              have O6 := Lib.hid hO6
              have D6 := Lib.hid hD6
              have HL6 := Lib.hid (And.intro hl8 hlm6)
              clear hf6 hT6 hR6 hO6 hD6 HGO hl8 hlm6 HOL
              generalize M ++ [(x6, u6)] = M6 at *
              cases han : isB (hd tk6) sAnd with
              | true =>
                have HOG : Hid (O = (goL (M6.map (·.1)) tk6.tail).then (fin h)) := Lib.hid (by rw [HOM.out, han]; rfl)
                have I6 := Lib.hid (is_yes wc r tk6 0 sAnd (Or.inr (Or.inr (Or.inr (Or.inr (Or.inr (Or.inl rfl)))))) R6.out han)
                have NE := Lib.hid (isB_ne han lit_ne.2.2.2.2.2.1)
                clear HOM han
                go_wp2_with fail
                refine I6.out.mono ?_
                rintro e w7 ⟨rfl, k7⟩
                have FIN := Lib.hid (show LU r w X nm hp hn hc h O (gk - 1) true w7 from ⟨C6.out.below k7, Z6.out.step0 k7, Nat.lt_of_lt_of_le X6.out k7.size, Or.inl ⟨rfl, M6, v6, tk6, D6.out.frame (fun b o _ h2 => k7.cell (p := ⟨b, o, none⟩) (Nat.lt_trans h2 X6.out)), by have := HL6.out.1; have := HL6.out.2; have := HMG.out; omega, by have := HL6.out.1; have := HL6.out.2; omega, HOG.out, NE.out, OwnG.ch (r := r) O6.out (Ch.of k7) hrX1, T6.out.step0 k7, R6.out.below k7⟩⟩)
                have hgk : 1 ≤ gk := by have := HMG.out; have := HM8.out; omega
                clear k7 I6
                go_wp2_with fail
                go_roundg (gk - 1)
                case rel => exact ⟨true, rfl, FIN⟩
                case measure => omega
              | false =>
                have HOG : Hid (O = fin h (M6.map (·.1)) tk6) := Lib.hid (by rw [HOM.out, han]; rfl)
                have I6 := Lib.hid (is_no wc r tk6 0 sAnd R6.out han)
                clear HOM han
                go_wp2_with fail
                refine I6.out.mono ?_
                rintro e w7 ⟨rfl, k7⟩
                have FIN := Lib.hid (show LU r w X nm hp hn hc h O (gk - 1) false w7 from ⟨C6.out.below k7, Z6.out.step0 k7, Nat.lt_of_lt_of_le X6.out k7.size, Or.inr (Or.inl ⟨rfl, M6, v6, tk6, D6.out.frame (fun b o _ h2 => k7.cell (p := ⟨b, o, none⟩) (Nat.lt_trans h2 X6.out)), HOG.out, OwnG.ch (r := r) O6.out (Ch.of k7) hrX1, T6.out.step0 k7, R6.out.below k7⟩)⟩)
                have hgk : 1 ≤ gk := by have := HMG.out; have := HM8.out; omega
                clear k7 I6
                go_wp2_with fail
                go_roundg (gk - 1)
                case rel => exact ⟨false, rfl, FIN⟩
                case measure => omega
            · have HOB : Hid (O = .bad a6 er6) := Lib.hid (by rw [HGO.out, hf6]; rfl)
              have I6 := Lib.hid (is_err wc r tk6 a6 er6 sAnd hR6 her6)
              have T6 := Lib.hid hT6
              have R6 := Lib.hid hR6
              have E6 := Lib.hid her6
              clear hf6 hT6 hR6 her6 HGO HOL
              go_wp2_with fail
              refine I6.out.mono ?_
              rintro e w7 ⟨rfl, k7⟩
              have FIN := Lib.hid (show LU r w X nm hp hn hc h O (gk - 1) false w7 from ⟨C6.out.below k7, Z6.out.step0 k7, Nat.lt_of_lt_of_le X6.out k7.size, Or.inr (Or.inr ⟨rfl, p6, m6, c6, tk6, a6, er6, HOB.out, E6.out, T6.out.step0 k7, R6.out.below k7⟩)⟩)
              have hgk : 1 ≤ gk := by have := HMG.out; have := HM8.out; omega
              clear k7 I6
              go_wp2_with fail
              go_roundg (gk - 1)
              case rel => exact ⟨false, rfl, FIN⟩
              case measure => omega
    · obtain ⟨va, vc, hv⟩ := hOw.form
      subst hv
      have RD := Lib.hid hRD
      have D3 := Lib.hid hD
      have OW := Lib.hid hOw
      have HX := Lib.hid hT
      obtain ⟨_, _, _, _, _, _, _, _, _, _, _, _, _, x4, _⟩ := hRD.open
      have hHO : Hid (O = (expF sDot tk).then fun _ r3 => .good ((h, M.map (·.1)) : Rl) r3) := Lib.hid hOB
      clear hD hOB hOw hT hRD
      cases hdt : isB (hd tk) sDot with
      | true =>
        have HO2 : Hid (O = .good (h, M.map (·.1)) tk.tail) := Lib.hid (by rw [hHO.out]; unfold expF; rw [if_pos hdt]; rfl)
        have SK := Lib.hid (skip_yes wr r tk 0 sDot (Or.inr (Or.inr (Or.inr (Or.inl rfl)))) lit_ne.2.2.2.1 RD.out hdt)
        clear hdt hHO
        go_wp2_with fail
        refine SK.out.mono ?_
        rintro e w9 ⟨rfl, k1, k2⟩
        have C9 := Lib.hid (HCH.out.trans k2)
        have R9 := Lib.hid k1
        have O9 := Lib.hid ((OW.out.ch k2 hrX1).row)
        have D9 := Lib.hid (D3.out.ch k2 hr (Nat.le_of_lt hXl))
        have hz9 := k2.size
        obtain ⟨q1, q2, q3, q4, q5, q6, q7⟩ := has3 (k2.has HZ.out hneZ)
        obtain ⟨q8, q9, q10, _, _, _, _⟩ := has3 (k2.has HX.out hneX)
        clear k1 k2 SK x4
        obtain ⟨e1, e2, _, _⟩ := D9.out
        have E1 := Lib.hid e1
        have E2 := Lib.hid e2
        clear e1 e2
        have hML : Hid ((M.map (·.1)).length = M.length) := Lib.hid (by simp)
        go_wp2_with fail
        refine bodyPost_ret (v := .agg #[.string nm, .slice hp hn hc, .slice va M.length vc]) (by simp [results, Tryd.results57, go_sem, q1, q2, q3]) rfl (Or.inl ⟨(h, M.map (·.1)), tk.tail, hp, hc, va, vc, HO2.out, by rw [E1.out, E2.out, hML.out], ⟨?_, D9.out.2.2.2, M, rfl, ?_⟩, ?_, ?_⟩)
        · have hs := D9.out.2.2.1
          rw [E2.out] at hs
          refine (hs.frame (fun b o hk => ?_)).weaken (fun b hb => ?_)
          · have h1 := hk.1
            exact (cell_set (by show b ≠ w.heap.size; omega) _).trans ((cell_set (by show b ≠ w.heap.size; omega) _).trans (cell_set (by show b ≠ w.heap.size; omega) _))
          · have h1 := hb.1
            have h2 := hb.2
            exact ⟨by omega, by rw [set_size, set_size, set_size]; omega⟩
        · have hro : RowG KL (fun b => X + 1 ≤ b ∧ b < w9.heap.size) w9 M (.slice va M.length vc) := O9.out
          have := (hro.keep (w' := ((w9.setCell ⟨w.heap.size, 0, none⟩ (.string nm)).setCell ⟨w.heap.size, 1, none⟩ (.slice hp hn hc)).setCell ⟨w.heap.size, 2, none⟩ (.slice va M.length vc)) fun b o hk => by
            have h1 := hk.1
            exact (cell_set (by show b ≠ w.heap.size; omega) _).trans ((cell_set (by show b ≠ w.heap.size; omega) _).trans (cell_set (by show b ≠ w.heap.size; omega) _))).wide (ok' := fun b => w.heap.size ≤ b ∧ b < (((w9.setCell ⟨w.heap.size, 0, none⟩ (.string nm)).setCell ⟨w.heap.size, 1, none⟩ (.slice hp hn hc)).setCell ⟨w.heap.size, 2, none⟩ (.slice va M.length vc)).heap.size) (fun b hb => ⟨by have := hb.1; omega, by rw [set_size, set_size, set_size]; exact hb.2⟩)
          show RowG KL _ _ M (.slice va (M.map (·.1)).length vc)
          rw [hML.out]
          exact this
        · exact RR.far (RR.far (RR.far R9.out (by exact hr) _) (by exact hr) _) (by exact hr) _
        · exact ((C9.out.put (Or.inr (by exact Nat.le_refl _)) _).put (Or.inr (by exact Nat.le_refl _)) _).put (Or.inr (by exact Nat.le_refl _)) _
      | false =>
        have HO2 : Hid (O = .bad (hd tk).2.2 1) := Lib.hid (by rw [hHO.out]; unfold expF; rw [if_neg (by rw [hdt]; decide)]; rfl)
        have SK := Lib.hid (skip_no wr r tk 0 sDot RD.out hdt)
        clear hdt hHO
        generalize (hd tk).2.2 = ta2 at *
        go_wp2_with fail
        refine SK.out.mono ?_
        rintro e w9 ⟨rfl, k1, k2⟩
        have C9 := Lib.hid (HCH.out.trans k2)
        have R9 := Lib.hid k1
        obtain ⟨q1, q2, q3, q4, q5, q6, q7⟩ := has3 (k2.has HZ.out hneZ)
        obtain ⟨q8, q9, q10, _, _, _, _⟩ := has3 (k2.has HX.out hneX)
        clear k1 k2 SK x4
        go_wp2_with fail
        refine bodyPost_ret (v := .agg #[.string nm, .slice hp hn hc, .slice va M.length vc]) (by simp [results, Tryd.results57, go_sem, q1, q2, q3]) rfl (Or.inr ⟨ta2, 1, nm, hp, hn, hc, va, M.length, vc, tk, HO2.out, rfl, ?_, by decide, ?_⟩)
        · exact RR.far (RR.far (RR.far R9.out (by exact hr) _) (by exact hr) _) (by exact hr) _
        · exact ((C9.out.put (Or.inr (by exact Nat.le_refl _)) _).put (Or.inr (by exact Nat.le_refl _)) _).put (Or.inr (by exact Nat.le_refl _)) _
    · have hE : (er == 0) = false := by rw [beq_eq_false_iff_ne]; exact her
      have E7 := Lib.hid her
      have HO2 := Lib.hid hOB
      have RD := Lib.hid hRD
      have HX := Lib.hid hT
      obtain ⟨_, _, _, _, _, _, _, _, _, _, _, _, _, x4, _⟩ := hRD.open
      have SK := Lib.hid (skip_err wr r tk a er sDot RD.out E7.out)
      clear her hOB hRD hT
      go_wp2_with fail
      refine SK.out.mono ?_
      rintro e w9 ⟨rfl, k⟩
      have C9 := Lib.hid (HCH.out.below k)
      have R9 := Lib.hid (RD.out.below k)
      obtain ⟨q1, q2, q3, q4, q5, q6, q7⟩ := has3 (HZ.out.step0 k)
      obtain ⟨q8, q9, q10, _, _, _, _⟩ := has3 (HX.out.step0 k)
      clear k SK x4
      go_wp2_with fail
      refine bodyPost_ret (v := .agg #[.string nm, .slice hp hn hc, .slice p m c]) (by simp [results, Tryd.results57, go_sem, q1, q2, q3]) rfl (Or.inr ⟨a, er, nm, hp, hn, hc, p, m, c, tk, HO2.out, rfl, ?_, E7.out, ?_⟩)
      · exact RR.far (RR.far (RR.far R9.out (by exact hr) _) (by exact hr) _) (by exact hr) _
      · exact ((C9.out.put (Or.inr (by exact Nat.le_refl _)) _).put (Or.inr (by exact Nat.le_refl _)) _).put (Or.inr (by exact Nat.le_refl _)) _
end RefJ
end Go.Proofs.YtfdpelokiljigaaDoor
