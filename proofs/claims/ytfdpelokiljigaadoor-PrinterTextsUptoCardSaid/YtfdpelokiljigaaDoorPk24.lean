/- Texts laid together: RefC. Their own heads stand before each. -/
import Derived.Test.YtfdpelokiljigaaDoorPk23
import Derived.Deep.LoopGhost
import Derived.Deep.RegionHeld3
import Derived.Deep.DeepCutAuto
import Derived.BigQuiet
/- The reference's reader: rest (a term from its first token on). No conditions but a reader in memory. -/
namespace Go.Proofs.YtfdpelokiljigaaDoor
open Go Go.RowKit
namespace RefC
open Kit LexM TermM TermI TermU LexE LexF LexG LexP LexQ ParM ParA ParB ParC ParD ParV RefA RefB RefC0
/-- What holds at the head of the loop over arguments. -/
def LR (f : List GTok → Out Tm) (r : Nat) (w : World) (tx : ByteArray) (O : Out (List Tm)) (gk : Nat) (wr : World) : Prop :=
  Ch r w wr ∧ Has wr w.heap.size #[.string ⟨#[]⟩, .slice none 0 0] ∧
  ((∃ M v ts, M.length + gk = 5 ∧ M.length ≤ 4 ∧ O = goF f (M.map (·.1)) ts ∧ Own (w.heap.size + 2) wr M v ∧ Has wr (w.heap.size + 1) #[.string tx, v] ∧ RR wr r ts 0 0) ∨
   (∃ p m c ts a er, 1 ≤ gk + 1 ∧ O = .bad a er ∧ er ≠ 0 ∧ Has wr (w.heap.size + 1) #[.string tx, .slice p m c] ∧ RR wr r ts a er))
theorem shut_comma {t : GTok} (h : isB t sShut = true) : isB t sComma = false := by
  unfold isB at h ⊢
  rw [beq_iff_eq] at h
  rw [h]
  decide +kernel
set_option maxRecDepth 100000 in
set_option maxHeartbeats 3200000 in
theorem rest_any (f : List GTok → Out Tm) (hbad : ∀ ts, begB (hd ts) = false → ∃ a er, f ts = .bad a er ∧ er ≠ 0) (L : Int) (hL1 : 1 ≤ L) (hL2 : L ≤ 4) (r : Nat)
    (IH0 : ∀ (w : World) (ts : List GTok), RR w r ts 0 0 → Calls Tryd.prog 117 #[.pointer (some ⟨r, 0, none⟩), .int .i64 (L + 1)] w (TmO r w (f ts)))
    (w : World) (ts : List GTok) (h : RR w r ts 0 0) (hb : begB (hd ts) = true) :
    Calls Tryd.prog 99 #[.pointer (some ⟨r, 0, none⟩), .int .i64 L] w (TmO r w (if (hd ts).1 = 1 then (argsF f ts.tail).then fun l r => .good (.mk (hd ts).2.1 l) r else .good (.mk (hd ts).2.1 []) ts.tail)) := by
  obtain ⟨W1, hW1⟩ : ∃ W1, W1 = w.alloc (.cells #[.string ⟨#[]⟩, .slice none 0 0] 24) := ⟨_, rfl⟩
  have G1 : Below w.heap.size w W1 := by rw [hW1]; exact below_alloc w _
  have H1 : Hid (Has W1 w.heap.size #[.string ⟨#[]⟩, .slice none 0 0]) := Lib.hid (by rw [hW1]; exact Has.new _ _ _)
  have hsz1 : W1.heap.size = w.heap.size + 1 := by rw [hW1]; simp
  have hr := h.lt
  have R1 := h.below G1
  have RR1 := Lib.hid R1
  have NM := Lib.hid h.nm
  have NZ := Lib.hid (begB_ne hb)
  obtain ⟨g, o, c, n, i, i1, i2, i3, i4, i5, x1, x2, x3, x4, f1, f2, f3, y1, y2, y3, y4⟩ := R1.open
  have hi1 : (i : Int) < (n : Int) := by omega
  have hi0 : 0 ≤ (i : Int) := by omega
  have hi2 : (n : Int) ≤ 20000 := by omega
  have C1 := Lib.hid (Ch.of (r := r) G1)
  have HO : Hid (∀ t : GTok, hd ts = t → (if t.1 = 1 then (argsF f ts.tail).then fun l r => .good (.mk t.2.1 l) r else .good (.mk t.2.1 []) ts.tail : Out Tm) = (if (hd ts).1 = 1 then (argsF f ts.tail).then fun l r => .good (.mk (hd ts).2.1 l) r else .good (.mk (hd ts).2.1 []) ts.tail)) := Lib.hid (fun t e => by rw [e])
  have HT := Lib.hid (rfl : hd ts = hd ts)
  have AG := Lib.hid (fun h => args_go f ts.tail h)
  have HP := Lib.hid (fun (w2 : World) (k : Below W1.heap.size W1 w2) (j : Nat) (hj : w2.cell? ⟨r, 1, none⟩ = some (.int .i64 j)) => (R1.below k).pass (Or.inl (begB_ne hb)) hj)
  clear R1 hb
  generalize hd ts = t at *
  generalize ts.tail = ts2 at *
  have HB := Lib.hid hbad
  have IH := Lib.hid IH0
  have HTOT : Hid (∀ k' tx', t.1 = k' → t.2.1 = tx' → (if t.1 = 1 then (argsF f ts2).then fun l r => .good (.mk t.2.1 l) r else .good (.mk t.2.1 []) ts2 : Out Tm) = (if k' = 1 then (argsF f ts2).then fun l r => .good (.mk tx' l) r else .good (.mk tx' []) ts2)) := Lib.hid (fun k' tx' e1 e2 => by rw [e1, e2])
  have NMt : Hid (∀ tx', t.2.1 = tx' → tx'.size ≤ maxLen) := Lib.hid (fun tx' e => by rw [← e]; exact NM.out)
  generalize hOT : (if t.1 = 1 then (argsF f ts2).then fun l r => .good (.mk t.2.1 l) r else .good (.mk t.2.1 []) ts2 : Out Tm) = OT at *
  clear HO HT h hbad IH0 G1 NM
  generalize hk : t.1 = k at *
  generalize htx : t.2.1 = tx at *
  generalize t.2.2 = ta at *
  have HOT := Lib.hid (HTOT.out k tx rfl rfl)
  have NM := Lib.hid (NMt.out tx rfl)
  clear hk htx HTOT NMt hOT
  have Hb : Hid (∀ w', Below W1.heap.size W1 w' → w'.cell? ⟨r, 0, none⟩ = some (.slice (some ⟨g, o, none⟩) n c) ∧ w'.cell? ⟨r, 1, none⟩ = some (.int .i64 (i : Nat)) ∧ w'.cell? ⟨g, o + i * 3 + 1, none⟩ = some (.string tx) ∧ Hid (Below W1.heap.size W1 w')) := Lib.hid (fun w' g' => ⟨(g'.cell (p := ⟨_, _, none⟩) i3).trans x1, (g'.cell (p := ⟨_, _, none⟩) i3).trans x2, (g'.cell (p := ⟨_, _, none⟩) i5).trans y2, Lib.hid g'⟩)
  unfold TmO
  go_enter Tryd.func99, Tryd.ntmps99
  go_upto_region 1 with fail
  rw [← hW1]
  clear hW1
  go_cut [5] (fun s5 wx => s5 = .pointer (some ⟨w.heap.size + 1, 0, none⟩) ∧ Hid (Has wx (w.heap.size + 1) #[.string tx, .slice none 0 0]) ∧ Hid (Below W1.heap.size W1 wx))
  case first =>
    have hs0 := Hb.out _ (Below.refl _ W1).drew
    clear x1 x2 x3 x4 f1 f2 f3 y1 y2 y3 y4
    go_region_held3 (fun w' => w'.cell? ⟨r, 0, none⟩ = some (.slice (some ⟨g, o, none⟩) n c) ∧ w'.cell? ⟨r, 1, none⟩ = some (.int .i64 (i : Nat)) ∧ w'.cell? ⟨g, o + i * 3 + 1, none⟩ = some (.string tx) ∧ Hid (Below W1.heap.size W1 w'))
      (first | (with_reducible assumption) | (with_reducible exact ⟨‹_›, ‹_›, ‹_›, ‹_›⟩) | (with_reducible refine Hb.out _ ?_; repeat (first | (with_reducible exact Hid.out (by assumption)) | (with_reducible exact Below.refl _ _) | (with_reducible refine Below.drew ?_) | (with_reducible refine Below.alloc ?_ (Nat.le_refl _) _))))
      (fail)
    all_goals
      go_wp2_with fail
      go_meet
      exact ⟨rfl, Lib.hid (by rw [← hsz1]; exact (Has.new W1 _ _).drew), Lib.hid ((Below.refl _ W1).alloc (Nat.le_refl _) _).drew⟩
  case rest =>
    obtain ⟨rfl, H5, B5⟩ := hcut
    have z1 := (B5.out.cell (p := ⟨r, 0, none⟩) i3).trans x1
    have z2 := (B5.out.cell (p := ⟨r, 1, none⟩) i3).trans x2
    have z3 := (B5.out.frozen (p := ⟨r, 1, none⟩) i3).trans f1
    have z4 := (B5.out.cell (p := ⟨g, o + i * 3, none⟩) i5).trans y1
    clear x1 x2 x3 x4 f1 f2 f3 y1 y2 y3 y4 Hb
    go_upto_region 2 with fail
    go_quiet (fail)
    have HRW := Lib.hid hsz1
    have HP2 := Lib.hid (HP.out (wc.drewN nq) (below_drewN B5.out nq) i z2)
    have C3 := Lib.hid ((((C1.out.below B5.out).below (below_drewN (Below.refl _ _) nq))).put (p := ⟨r, 1, none⟩) (Or.inl rfl) (.int .i64 ((i : Int) + 1)))
    have hneZ : w.heap.size ≠ r := by omega
    have hneT : w.heap.size + 1 ≠ r := by omega
    have hrT : r < w.heap.size + 2 := by omega
    have Z3 := Lib.hid (((H1.out.step0 B5.out).drewN nq).far (p := ⟨r, 1, none⟩) hneZ (.int .i64 ((i : Int) + 1)))
    have T3 := Lib.hid ((H5.out.drewN nq).far (p := ⟨r, 1, none⟩) hneT (.int .i64 ((i : Int) + 1)))
    go_upto_region 4 with fail
    clear z1 z2 z3 z4 H5 B5 H1 C1 HP RR1
    generalize (wc.drewN nq).setCell ⟨r, 1, none⟩ (.int .i64 ((i : Int) + 1)) = w3 at *
    clear i1 i2 i3 i4 i5 hi1 hi0 hi2
    by_cases hk1 : k = 1
    case neg =>
      have HO2 : Hid (OT = .good (.mk tx []) ts2) := Lib.hid (by rw [HOT.out, if_neg hk1])
      have hkb : (k == 1) = false := by rw [beq_eq_false_iff_ne]; exact hk1
      obtain ⟨q1, q2, q3, q4, q5⟩ := Z3.out.two
      obtain ⟨q6, q7, _, _, _⟩ := T3.out.two
      clear hk1 HOT AG HB IH
      go_wp2_with fail
      refine bodyPost_ret (v := .agg #[.string tx, .slice none 0 0]) (by simp [results, Tryd.results99, go_sem, q1, q2]) rfl (Or.inl ⟨.mk tx [], ts2, none, 0, HO2.out, rfl, SlIn.none _ _, NM.out, ?_, ?_⟩)
      · exact RR.far (RR.far HP2.out (by exact hr) _) (by exact hr) _
      · exact (C3.out.put (Or.inr (by exact Nat.le_refl _)) _).put (Or.inr (by exact Nat.le_refl _)) _
    case pos =>
    subst hk1
    have HOT : Hid (OT = (argsF f ts2).then fun l r => .good (.mk tx l) r) := Lib.hid (by rw [HOT.out, if_pos rfl])
    cases hop : isB (hd ts2) sOpen with
    | false =>
      have I4 := Lib.hid (is_no w3 r ts2 0 sOpen HP2.out hop)
      have HO2 : Hid (OT = .good (.mk tx []) ts2) := Lib.hid (by rw [HOT.out]; unfold argsF; rw [if_neg (by rw [hop]; decide)]; rfl)
      clear hop HOT AG HB IH
      go_wp2_with fail
      refine I4.out.mono ?_
      rintro e w4 ⟨rfl, k4⟩
      have R4 := Lib.hid (HP2.out.below k4)
      have C4 := Lib.hid (C3.out.below k4)
      obtain ⟨q1, q2, q3, q4, q5⟩ := (Z3.out.step0 k4).two
      obtain ⟨q6, q7, _, _, _⟩ := (T3.out.step0 k4).two
      clear k4 I4
      go_wp2_with fail
      refine bodyPost_ret (v := .agg #[.string tx, .slice none 0 0]) (by simp [results, Tryd.results99, go_sem, q1, q2]) rfl (Or.inl ⟨.mk tx [], ts2, none, 0, HO2.out, rfl, SlIn.none _ _, NM.out, ?_, ?_⟩)
      · exact RR.far (RR.far R4.out (by exact hr) _) (by exact hr) _
      · exact (C4.out.put (Or.inr (by exact Nat.le_refl _)) _).put (Or.inr (by exact Nat.le_refl _)) _
    | true =>
      have I4 := Lib.hid (is_yes w3 r ts2 0 sOpen (Or.inl rfl) HP2.out hop)
      have HOA := Lib.hid (AG.out hop)
      have NE := Lib.hid (isB_ne hop lit_ne.1)
      clear hop AG
      generalize argsF f ts2 = O at *
      go_wp2_with fail
      refine I4.out.mono ?_
      rintro e w4 ⟨rfl, k4⟩
      have R4 := Lib.hid (HP2.out.below k4)
      have C4 := Lib.hid (C3.out.below k4)
      have Z4 := Lib.hid (Z3.out.step0 k4)
      have T4 := Lib.hid (T3.out.step0 k4)
      clear k4 I4 C3 Z3 T3 HP2
      obtain ⟨g, o, c, n, i, i1, i2, i3, i4, i5, x1, x2, x3, x4, f1, f2, f3, _⟩ := R4.out.open
      have hi1 : (i : Int) < 20000 := by omega
      have hi0 : 0 ≤ (i : Int) := by omega
      have R5 := Lib.hid (R4.out.pass (Or.inr NE.out) x2)
      have C5 := Lib.hid (C4.out.put (p := ⟨r, 1, none⟩) (Or.inl rfl) (.int .i64 ((i : Int) + 1)))
      have Z5 := Lib.hid (Z4.out.far (p := ⟨r, 1, none⟩) hneZ (.int .i64 ((i : Int) + 1)))
      have T5 := Lib.hid (T4.out.far (p := ⟨r, 1, none⟩) hneT (.int .i64 ((i : Int) + 1)))
      clear R4 C4 Z4 T4
      go_wp2_with fail
      generalize w4.setCell ⟨r, 1, none⟩ (.int .i64 ((i : Int) + 1)) = w5 at *
      clear i1 i2 i3 i4 i5 hi1 hi0 x1 x2 x3 x4 f1 f2 f3
      obtain ⟨i0, hi, hz0, hz1, hz2⟩ := info_parts Tryd.info28
      have HI := Lib.hid (And.intro hi (And.intro hz0 (And.intro hz1 hz2)))
      clear hi hz0 hz1 hz2
      go_loopg [] 5 (fun gk wr => Hid (LR f r w tx O gk wr))
      case atStart => exact Lib.hid ⟨C5.out, Z5.out, Or.inl ⟨[], _, ts2.tail, rfl, by simp, HOA.out, Own.nil _ _, T5.out, R5.out⟩⟩
      case round =>
        clear C5 Z5 T5 R5 HOA
        obtain ⟨hC, hZ, hrr⟩ := hrel.out
        have HCH := Lib.hid hC
        have HZ := Lib.hid hZ
        clear hC hZ hrel
        rcases hrr with ⟨M, v, tk, hMG, hM4, hGO, hOw, hT5, hRD⟩ | ⟨p, m, c, tk, a, er, _, hOB, her, hT5, hRD⟩
        · obtain ⟨va, vc, hv⟩ := hOw.form
          subst hv
          have HMG := Lib.hid hMG
          have HM4 := Lib.hid hM4
          have HOW := Lib.hid hOw
          have HT5 := Lib.hid hT5
          have RD := Lib.hid hRD
          have hTsz : w.heap.size + 2 ≤ wr.heap.size := hT5.lt
          have A1 : Hid (M.length + 1 ≤ maxLen) := Lib.hid (by unfold maxLen; omega)
          have A2 : Hid ((M.length + 1) * 40 ≤ 140737488355328) := Lib.hid (by omega)
          obtain ⟨_, _, _, _, _, _, _, _, _, _, _, _, _, x4, _⟩ := hRD.open
          obtain ⟨y1, y2, _, _, _⟩ := hT5.two
          clear hMG hOw hT5 hRD
          by_cases h4 : M.length = 4
          · have e4 : ((M.length : Int) == 4) = true := by rw [h4]; rfl
            have e4' : (M.length == 4) = true := by rw [h4]; rfl
            have H4 := Lib.hid h4
            clear h4
            have BG := Lib.hid (begins_any wr r tk 0 0 RD.out)
            cases hbg : begB (hd tk) with
            | true =>
              have HOE : Hid (O = .bad (hd tk).2.2 5) := Lib.hid (by rw [hGO]; unfold goF; rw [if_pos (by rw [List.length_map, H4.out, hbg]; rfl)])
              rw [hbg] at BG
              clear hGO hbg
              go_wp2_with fail
              refine BG.out.mono ?_
              rintro e w6 ⟨rfl, k6⟩
              have FL := Lib.hid (fail_ok w6 r tk 0 5 (RD.out.below k6))
              have C6 := Lib.hid (HCH.out.below k6)
              have Z6 := Lib.hid (HZ.out.step0 k6)
              have T6 := Lib.hid (HT5.out.step0 k6)
              clear k6 BG
              go_wp2_with fail
              refine FL.out.mono ?_
              rintro e w7 ⟨rfl, k1, k2⟩
              have R7 := Lib.hid k1
              have C7 := Lib.hid (C6.out.trans k2)
              have Z7 := Lib.hid (k2.has Z6.out hneZ)
              have T7 := Lib.hid (k2.has T6.out hneT)
              have HTB : Hid (OT = .bad (hd tk).2.2 5) := Lib.hid (by rw [HOT.out, HOE.out]; rfl)
              have E7 : Hid ((5 : Int) ≠ 0) := Lib.hid (by decide)
              clear k1 k2 FL C6 Z6 T6 HOE HOT
              generalize (hd tk).2.2 = ta2 at *
              have SK := Lib.hid (skip_err w7 r tk ta2 5 sShut R7.out E7.out)
              go_wp2_with fail
              refine SK.out.mono ?_
              rintro e w9 ⟨rfl, k9⟩
              have C9 := Lib.hid (Ch.below C7.out k9)
              have R9 := Lib.hid (RR.below R7.out k9)
              have hlt9 := Lib.hid hr
              obtain ⟨q1, q2, q3, q4, q5⟩ := (Has.step0 Z7.out k9).two
              obtain ⟨q6, q7, _, _, _⟩ := (Has.step0 T7.out k9).two
              clear SK k9
              go_wp2_with fail
              refine bodyPost_ret (v := .agg #[.string tx, .slice va M.length vc]) (by simp [results, Tryd.results99, go_sem, q1, q2]) rfl (Or.inr ⟨ta2, 5, tx, va, M.length, vc, tk, HTB.out, rfl, ?_, E7.out, ?_⟩)
              · exact RR.far (RR.far R9.out (by exact hr) _) (by exact hr) _
              · exact (C9.out.put (Or.inr (by exact Nat.le_refl _)) _).put (Or.inr (by exact Nat.le_refl _)) _
            | false =>
              have HGO : Hid (O = (f tk).then fun t r => moreF f (4 - M.length) (M.map (·.1) ++ [t]) r) := Lib.hid (by rw [hGO]; unfold goF; rw [if_neg (by rw [hbg]; simp)]; rw [List.length_map])
              have HFB := Lib.hid (HB.out tk hbg)
              rw [hbg] at BG
              clear hGO hbg
              go_wp2_with fail
              refine BG.out.mono ?_
              rintro e w6 ⟨rfl, k6⟩
              have HCH := Lib.hid (HCH.out.below k6)
              have HZ := Lib.hid (HZ.out.step0 k6)
              have HT5 := Lib.hid (HT5.out.step0 k6)
              have HOW := Lib.hid (HOW.out.below k6)
              have RD := Lib.hid (RD.out.below k6)
              have hTsz := Nat.le_trans hTsz k6.size
              obtain ⟨y1, y2, _, _, _⟩ := HT5.out.two
              clear k6 BG
              have KT := Lib.hid (IH.out (World.drew w6) tk (RD.out.below (Below.refl _ _).drew))
              have hwrap : IntKind.i64.wrap (L + 1) = L + 1 := IntWalk.i64_in _ (by omega)
              go_upto_region 10 with fail
              go_cut [] (fun wx => Hid (Aft r w tx (f tk) M wx))
              case first =>
                clear HGO IH HB
                refine wp_region_held_drew (S := (fun _ => True)) (by kernel_rfl) trivial (fun hHeld => ?_)
                refine wpAnyH_take (i := 0) (v := ?_) rfl (by kernel_rfl) (by kernel_rfl) (by kernel_rfl) (fun _ _ _ h => h) (Or.inl ⟨by rfl, ?_⟩) (by assumption) ?_
                rotate_left
                · intro w' hSw; (try dsimp only at hSw); (try simp only [List.getElem_toArray, List.getElem_cons_zero]); go_simp; try with_reducible rfl
                (try simp only [List.getElem_toArray, List.getElem_cons_zero, Act.put, List.setIfInBounds_toArray, List.set_cons_zero, List.set_cons_succ])
                refine wpAnyH_take (i := 2) (v := ?_) rfl (by kernel_rfl) (by kernel_rfl) (by kernel_rfl) (fun _ _ _ h => h) (Or.inl ⟨by rfl, ?_⟩) (by assumption) ?_
                rotate_left
                · intro w' hSw; (try dsimp only at hSw); (try simp only [List.getElem_toArray, List.getElem_cons_zero, List.getElem_cons_succ]); go_simp; try with_reducible rfl
                (try simp only [List.getElem_toArray, List.getElem_cons_zero, List.getElem_cons_succ, Act.put, List.setIfInBounds_toArray, List.set_cons_zero, List.set_cons_succ])
                refine wpAnyH_take (i := 3) (v := ?_) rfl (by kernel_rfl) (by kernel_rfl) (by kernel_rfl) (fun _ _ _ h => h) (Or.inl ⟨by rfl, ?_⟩) (by assumption) ?_
                rotate_left
                · intro w' hSw; (try dsimp only at hSw); (try simp only [List.getElem_toArray, List.getElem_cons_zero, List.getElem_cons_succ]); go_simp; try with_reducible rfl
                (try simp only [List.getElem_toArray, List.getElem_cons_zero, List.getElem_cons_succ, Act.put, List.setIfInBounds_toArray, List.set_cons_zero, List.set_cons_succ])
                refine wpAnyH_take (i := 4) (v := ?_) rfl (by kernel_rfl) (by kernel_rfl) (by kernel_rfl) (fun _ _ _ h => h) (Or.inl ⟨by rfl, ?_⟩) (by assumption) ?_
                rotate_left
                · intro w' hSw; (try dsimp only at hSw); (try simp only [List.getElem_toArray, List.getElem_cons_zero, List.getElem_cons_succ]); go_simp; try with_reducible rfl
                (try simp only [List.getElem_toArray, List.getElem_cons_zero, List.getElem_cons_succ, Act.put, List.setIfInBounds_toArray, List.set_cons_zero, List.set_cons_succ])
                refine wpAnyH_ready (rs := [1, 5]) (by kernel_rfl) (by simp) ?_
                refine AllReadyH.cons rfl (fun K hK => ?_) (AllReadyH.cons rfl (fun K hK => ?_) AllReadyH.nil)
                · go_simp
                  refine hK.out _ _ trivial (fun hHeld => ?_)
                  clear hK K
                  (try simp only [List.getElem_toArray, List.getElem_cons_zero, List.getElem_cons_succ, Act.put, List.setIfInBounds_toArray, List.set_cons_zero, List.set_cons_succ])
                  refine wpAnyH_ready (rs := [5]) (by kernel_rfl) (by simp) ?_
                  refine AllReadyH.cons rfl (fun K hK => ?_) AllReadyH.nil
                  go_simp
                  refine KT.out.mono ?_
                  rintro e w2 hT
                  obtain ⟨nm, p2, m2, c2, rfl, hC2, hF2⟩ := tmO_uni hT
                  have CC2 : Hid (Ch r w6 w2) := Lib.hid (Ch.trans (Ch.of (Below.refl _ _).drew) hC2)
                  have FF2 : Hid (Fct r w6 w2 (f tk) nm p2 m2 c2) := Lib.hid hF2
                  have q1 : w2.cell? ⟨w.heap.size + 1, 1, none⟩ = some (.slice va M.length vc) := (hC2.has HT5.out hneT).two.2.1
                  have q0 : w.heap.size + 1 < w2.heap.size := (hC2.has HT5.out hneT).lt
                  clear hT hC2 hF2
                  refine hK.out _ _ trivial (fun hHeld => ?_)
                  clear hK K
                  (try simp only [List.getElem_toArray, List.getElem_cons_zero, List.getElem_cons_succ, Act.put, List.setIfInBounds_toArray, List.set_cons_zero, List.set_cons_succ])
                  refine wpAnyH_ready (rs := [6]) (by kernel_rfl) (by simp) ?_
                  refine AllReadyH.cons rfl (fun K hK => ?_) AllReadyH.nil
                  go_simp
                  refine hK.out _ _ trivial (fun hHeld => ?_)
                  clear hK K
                  (try simp only [List.getElem_toArray, List.getElem_cons_zero, List.getElem_cons_succ, Act.put, List.setIfInBounds_toArray, List.set_cons_zero, List.set_cons_succ])
                  refine wpAnyH_ready (rs := [7]) (by kernel_rfl) (by simp) ?_
                  refine AllReadyH.cons rfl (fun K hK => ?_) AllReadyH.nil
                  have hsz2 : w.heap.size + 2 ≤ w2.heap.size := Nat.le_trans hTsz CC2.out.size
                  have A3 : w.heap.size + 2 ≤ (w2.alloc (.cells #[.string nm, .slice p2 m2 c2] 24)).heap.size := by rw [World.size_alloc]; omega
                  refine Eq.mpr (if_pos (by rfl)) ?_
                  refine wp_append_lies _ (.tmp 71) (.tmp 76) 22 rfl (w.heap.size + 2) 24 i0 (.agg #[.string ⟨#[]⟩, .slice none 0 0]) 2 40 Tryd.underlying22 HI.out.1 HI.out.2.1 HI.out.2.2.1 HI.out.2.2.2 rfl (by decide) (.slice va M.length vc) M.length (flatL M) rfl ((own_ch HOW.out CC2.out hrT).1.alloc _) ⟨w2.heap.size, 0, none⟩ 1 1 [.string nm, .slice p2 m2 c2] rfl rfl (news2 _ _ _ _) (one2 _ _ _ _) (by decide) A1.out A2.out A3 (w2.heap.size + 1) (by simp) ?_
                  intro g5 cap5 w4 hown hgrow hat hlt5
                  have HAF := Lib.hid (aft_of (M := M) hr HCH.out HZ.out HT5.out HOW.out CC2.out FF2.out hown hgrow hat)
                  have hq : Has w4 (w.heap.size + 1) #[.string tx, .slice va M.length vc] := RefC0.Has.grown ((CC2.out.has HT5.out hneT).alloc _) hgrow (fun e => by have := (HOW.out.1.lt _ e).1; omega)
                  obtain ⟨q2, q3, q4, q5, q6⟩ := hq.two
                  clear hown hgrow hat hq q1 q0
                  refine hK.out _ _ trivial (fun hHeld => ?_)
                  clear hK K
                  (try simp only [List.getElem_toArray, List.getElem_cons_zero, List.getElem_cons_succ, Act.put, List.setIfInBounds_toArray, List.set_cons_zero, List.set_cons_succ])
                  refine wpAnyH_take (i := 8) (v := ?_) rfl (by kernel_rfl) (by kernel_rfl) (by kernel_rfl) (fun _ _ _ h => h) (Or.inl ⟨by rfl, ?_⟩) (by assumption) ?_
                  rotate_left
                  · intro w' hSw; (try dsimp only at hSw); (try simp only [List.getElem_toArray, List.getElem_cons_zero, List.getElem_cons_succ]); go_simp; try with_reducible rfl
                  (try simp only [List.getElem_toArray, List.getElem_cons_zero, List.getElem_cons_succ, Act.put, List.setIfInBounds_toArray, List.set_cons_zero, List.set_cons_succ])
                  refine wpAnyH_ready (rs := [9]) (by kernel_rfl) (by simp) ?_
                  refine AllReadyH.cons rfl (fun K hK => ?_) AllReadyH.nil
                  go_simp
                  refine hK.out _ _ trivial (fun hHeld => ?_)
                  clear hK K
                  (try simp only [List.getElem_toArray, List.getElem_cons_zero, List.getElem_cons_succ, Act.put, List.setIfInBounds_toArray, List.set_cons_zero, List.set_cons_succ])
                  refine wpAnyH_done (by kernel_rfl) ?_ _
                  go_wp2_with fail
                  go_meet
                  exact HAF
                · go_simp
                  refine KT.out.mono ?_
                  rintro e w2 hT
                  obtain ⟨nm, p2, m2, c2, rfl, hC2, hF2⟩ := tmO_uni hT
                  have CC2 : Hid (Ch r w6 w2) := Lib.hid (Ch.trans (Ch.of (Below.refl _ _).drew) hC2)
                  have FF2 : Hid (Fct r w6 w2 (f tk) nm p2 m2 c2) := Lib.hid hF2
                  have q1 : w2.cell? ⟨w.heap.size + 1, 1, none⟩ = some (.slice va M.length vc) := (hC2.has HT5.out hneT).two.2.1
                  have q0 : w.heap.size + 1 < w2.heap.size := (hC2.has HT5.out hneT).lt
                  clear hT hC2 hF2
                  refine hK.out _ _ trivial (fun hHeld => ?_)
                  clear hK K
                  (try simp only [List.getElem_toArray, List.getElem_cons_zero, List.getElem_cons_succ, Act.put, List.setIfInBounds_toArray, List.set_cons_zero, List.set_cons_succ])
                  refine wpAnyH_ready (rs := [1, 6]) (by kernel_rfl) (by simp) ?_
                  refine AllReadyH.cons rfl (fun K hK => ?_) (AllReadyH.cons rfl (fun K hK => ?_) AllReadyH.nil)
                  · go_simp
                    refine hK.out _ _ trivial (fun hHeld => ?_)
                    clear hK K
                    (try simp only [List.getElem_toArray, List.getElem_cons_zero, List.getElem_cons_succ, Act.put, List.setIfInBounds_toArray, List.set_cons_zero, List.set_cons_succ])
                    refine wpAnyH_ready (rs := [6]) (by kernel_rfl) (by simp) ?_
                    refine AllReadyH.cons rfl (fun K hK => ?_) AllReadyH.nil
                    go_simp
                    refine hK.out _ _ trivial (fun hHeld => ?_)
                    clear hK K
                    (try simp only [List.getElem_toArray, List.getElem_cons_zero, List.getElem_cons_succ, Act.put, List.setIfInBounds_toArray, List.set_cons_zero, List.set_cons_succ])
                    refine wpAnyH_ready (rs := [7]) (by kernel_rfl) (by simp) ?_
                    refine AllReadyH.cons rfl (fun K hK => ?_) AllReadyH.nil
                    have hsz2 : w.heap.size + 2 ≤ w2.heap.size := Nat.le_trans hTsz CC2.out.size
                    have A3 : w.heap.size + 2 ≤ (w2.alloc (.cells #[.string nm, .slice p2 m2 c2] 24)).heap.size := by rw [World.size_alloc]; omega
                    refine Eq.mpr (if_pos (by rfl)) ?_
                    refine wp_append_lies _ (.tmp 71) (.tmp 76) 22 rfl (w.heap.size + 2) 24 i0 (.agg #[.string ⟨#[]⟩, .slice none 0 0]) 2 40 Tryd.underlying22 HI.out.1 HI.out.2.1 HI.out.2.2.1 HI.out.2.2.2 rfl (by decide) (.slice va M.length vc) M.length (flatL M) rfl ((own_ch HOW.out CC2.out hrT).1.alloc _) ⟨w2.heap.size, 0, none⟩ 1 1 [.string nm, .slice p2 m2 c2] rfl rfl (news2 _ _ _ _) (one2 _ _ _ _) (by decide) A1.out A2.out A3 (w2.heap.size + 1) (by simp) ?_
                    intro g5 cap5 w4 hown hgrow hat hlt5
                    have HAF := Lib.hid (aft_of (M := M) hr HCH.out HZ.out HT5.out HOW.out CC2.out FF2.out hown hgrow hat)
                    have hq : Has w4 (w.heap.size + 1) #[.string tx, .slice va M.length vc] := RefC0.Has.grown ((CC2.out.has HT5.out hneT).alloc _) hgrow (fun e => by have := (HOW.out.1.lt _ e).1; omega)
                    obtain ⟨q2, q3, q4, q5, q6⟩ := hq.two
                    clear hown hgrow hat hq q1 q0
                    refine hK.out _ _ trivial (fun hHeld => ?_)
                    clear hK K
                    (try simp only [List.getElem_toArray, List.getElem_cons_zero, List.getElem_cons_succ, Act.put, List.setIfInBounds_toArray, List.set_cons_zero, List.set_cons_succ])
                    refine wpAnyH_take (i := 8) (v := ?_) rfl (by kernel_rfl) (by kernel_rfl) (by kernel_rfl) (fun _ _ _ h => h) (Or.inl ⟨by rfl, ?_⟩) (by assumption) ?_
                    rotate_left
                    · intro w' hSw; (try dsimp only at hSw); (try simp only [List.getElem_toArray, List.getElem_cons_zero, List.getElem_cons_succ]); go_simp; try with_reducible rfl
                    (try simp only [List.getElem_toArray, List.getElem_cons_zero, List.getElem_cons_succ, Act.put, List.setIfInBounds_toArray, List.set_cons_zero, List.set_cons_succ])
                    refine wpAnyH_ready (rs := [9]) (by kernel_rfl) (by simp) ?_
                    refine AllReadyH.cons rfl (fun K hK => ?_) AllReadyH.nil
                    go_simp
                    refine hK.out _ _ trivial (fun hHeld => ?_)
                    clear hK K
                    (try simp only [List.getElem_toArray, List.getElem_cons_zero, List.getElem_cons_succ, Act.put, List.setIfInBounds_toArray, List.set_cons_zero, List.set_cons_succ])
                    refine wpAnyH_done (by kernel_rfl) ?_ _
                    go_wp2_with fail
                    go_meet
                    exact HAF
                  · go_simp
                    refine hK.out _ _ trivial (fun hHeld => ?_)
                    clear hK K
                    (try simp only [List.getElem_toArray, List.getElem_cons_zero, List.getElem_cons_succ, Act.put, List.setIfInBounds_toArray, List.set_cons_zero, List.set_cons_succ])
                    refine wpAnyH_ready (rs := [1]) (by kernel_rfl) (by simp) ?_
                    refine AllReadyH.cons rfl (fun K hK => ?_) AllReadyH.nil
                    go_simp
                    refine hK.out _ _ trivial (fun hHeld => ?_)
                    clear hK K
                    (try simp only [List.getElem_toArray, List.getElem_cons_zero, List.getElem_cons_succ, Act.put, List.setIfInBounds_toArray, List.set_cons_zero, List.set_cons_succ])
                    refine wpAnyH_ready (rs := [7]) (by kernel_rfl) (by simp) ?_
                    refine AllReadyH.cons rfl (fun K hK => ?_) AllReadyH.nil
                    have hsz2 : w.heap.size + 2 ≤ w2.heap.size := Nat.le_trans hTsz CC2.out.size
                    have A3 : w.heap.size + 2 ≤ (w2.alloc (.cells #[.string nm, .slice p2 m2 c2] 24)).heap.size := by rw [World.size_alloc]; omega
                    refine Eq.mpr (if_pos (by rfl)) ?_
                    refine wp_append_lies _ (.tmp 71) (.tmp 76) 22 rfl (w.heap.size + 2) 24 i0 (.agg #[.string ⟨#[]⟩, .slice none 0 0]) 2 40 Tryd.underlying22 HI.out.1 HI.out.2.1 HI.out.2.2.1 HI.out.2.2.2 rfl (by decide) (.slice va M.length vc) M.length (flatL M) rfl ((own_ch HOW.out CC2.out hrT).1.alloc _) ⟨w2.heap.size, 0, none⟩ 1 1 [.string nm, .slice p2 m2 c2] rfl rfl (news2 _ _ _ _) (one2 _ _ _ _) (by decide) A1.out A2.out A3 (w2.heap.size + 1) (by simp) ?_
                    intro g5 cap5 w4 hown hgrow hat hlt5
                    have HAF := Lib.hid (aft_of (M := M) hr HCH.out HZ.out HT5.out HOW.out CC2.out FF2.out hown hgrow hat)
                    have hq : Has w4 (w.heap.size + 1) #[.string tx, .slice va M.length vc] := RefC0.Has.grown ((CC2.out.has HT5.out hneT).alloc _) hgrow (fun e => by have := (HOW.out.1.lt _ e).1; omega)
                    obtain ⟨q2, q3, q4, q5, q6⟩ := hq.two
                    clear hown hgrow hat hq q1 q0
                    refine hK.out _ _ trivial (fun hHeld => ?_)
                    clear hK K
                    (try simp only [List.getElem_toArray, List.getElem_cons_zero, List.getElem_cons_succ, Act.put, List.setIfInBounds_toArray, List.set_cons_zero, List.set_cons_succ])
                    refine wpAnyH_take (i := 8) (v := ?_) rfl (by kernel_rfl) (by kernel_rfl) (by kernel_rfl) (fun _ _ _ h => h) (Or.inl ⟨by rfl, ?_⟩) (by assumption) ?_
                    rotate_left
                    · intro w' hSw; (try dsimp only at hSw); (try simp only [List.getElem_toArray, List.getElem_cons_zero, List.getElem_cons_succ]); go_simp; try with_reducible rfl
                    (try simp only [List.getElem_toArray, List.getElem_cons_zero, List.getElem_cons_succ, Act.put, List.setIfInBounds_toArray, List.set_cons_zero, List.set_cons_succ])
                    refine wpAnyH_ready (rs := [9]) (by kernel_rfl) (by simp) ?_
                    refine AllReadyH.cons rfl (fun K hK => ?_) AllReadyH.nil
                    go_simp
                    refine hK.out _ _ trivial (fun hHeld => ?_)
                    clear hK K
                    (try simp only [List.getElem_toArray, List.getElem_cons_zero, List.getElem_cons_succ, Act.put, List.setIfInBounds_toArray, List.set_cons_zero, List.set_cons_succ])
                    refine wpAnyH_done (by kernel_rfl) ?_ _
                    go_wp2_with fail
                    go_meet
                    exact HAF
              case rest =>
                obtain ⟨hC6, hZ6, hA6⟩ := hcut.out
                have C6 := Lib.hid hC6
                have Z6 := Lib.hid hZ6
                clear hC6 hZ6 hcut hwrap KT HCH HZ HT5 HOW RD
                rcases hA6 with ⟨t6, tk6, v6, u6, hf6, hO6, hT6, hR6⟩ | ⟨a6, er6, p6, m6, c6, tk6, hf6, her6, hT6, hR6⟩
                · exfalso
                  obtain ⟨a, er, hb1, _⟩ := HFB.out
                  rw [hf6] at hb1
                  cases hb1
                · have HOB : Hid (O = .bad a6 er6) := Lib.hid (by rw [HGO.out, hf6]; rfl)
                  have I6 := Lib.hid (is_err wc r tk6 a6 er6 sShut hR6 her6)
                  have T6 := Lib.hid hT6
                  have R6 := Lib.hid hR6
                  have E6 := Lib.hid her6
                  have hgk : 1 ≤ gk := by have := HMG.out; have := HM4.out; omega
                  clear hf6 hT6 hR6 her6 HGO
                  go_wp2_with fail
                  refine I6.out.mono ?_
                  rintro e w7 ⟨rfl, k7⟩
                  have R7 := Lib.hid (R6.out.below k7)
                  have T7 := Lib.hid (T6.out.step0 k7)
                  have Z7 := Lib.hid (Z6.out.step0 k7)
                  have C7 := Lib.hid (C6.out.below k7)
                  have S7 := Lib.hid (skip_err w7 r tk6 a6 er6 sComma R7.out E6.out)
                  clear k7 I6
                  go_wp2_with fail
                  refine S7.out.mono ?_
                  rintro e w8 ⟨rfl, k8⟩
                  have FIN := Lib.hid (show LR f r w tx O (gk - 1) w8 from ⟨C7.out.below k8, Z7.out.step0 k8, Or.inr ⟨p6, m6, c6, tk6, a6, er6, by omega, HOB.out, E6.out, T7.out.step0 k8, R7.out.below k8⟩⟩)
                  clear k8 S7
                  go_wp2_with fail
                  go_roundg (gk - 1)
                  case rel => exact FIN
                  case measure => omega
          · have e4 : ((M.length : Int) == 4) = false := by rw [beq_eq_false_iff_ne]; omega
            have e4' : (M.length == 4) = false := by rw [beq_eq_false_iff_ne]; exact h4
            have HGO : Hid (O = (f tk).then fun t r => moreF f (4 - M.length) (M.map (·.1) ++ [t]) r) := Lib.hid (by rw [hGO]; unfold goF; rw [if_neg (by rw [List.length_map]; simp [h4])]; rw [List.length_map])
            clear hGO
            have KT := Lib.hid (IH.out (World.drew wr) tk (RD.out.below (Below.refl _ _).drew))
            have hwrap : IntKind.i64.wrap (L + 1) = L + 1 := IntWalk.i64_in _ (by omega)
            go_upto_region 10 with fail
            go_cut [] (fun wx => Hid (Aft r w tx (f tk) M wx))
            case first =>
              clear HGO IH HB
              refine wp_region_held_drew (S := (fun _ => True)) (by kernel_rfl) trivial (fun hHeld => ?_)
              refine wpAnyH_take (i := 0) (v := ?_) rfl (by kernel_rfl) (by kernel_rfl) (by kernel_rfl) (fun _ _ _ h => h) (Or.inl ⟨by rfl, ?_⟩) (by assumption) ?_
              rotate_left
              · intro w' hSw; (try dsimp only at hSw); (try simp only [List.getElem_toArray, List.getElem_cons_zero]); go_simp; try with_reducible rfl
              (try simp only [List.getElem_toArray, List.getElem_cons_zero, Act.put, List.setIfInBounds_toArray, List.set_cons_zero, List.set_cons_succ])
              refine wpAnyH_take (i := 2) (v := ?_) rfl (by kernel_rfl) (by kernel_rfl) (by kernel_rfl) (fun _ _ _ h => h) (Or.inl ⟨by rfl, ?_⟩) (by assumption) ?_
              rotate_left
              · intro w' hSw; (try dsimp only at hSw); (try simp only [List.getElem_toArray, List.getElem_cons_zero, List.getElem_cons_succ]); go_simp; try with_reducible rfl
              (try simp only [List.getElem_toArray, List.getElem_cons_zero, List.getElem_cons_succ, Act.put, List.setIfInBounds_toArray, List.set_cons_zero, List.set_cons_succ])
              refine wpAnyH_take (i := 3) (v := ?_) rfl (by kernel_rfl) (by kernel_rfl) (by kernel_rfl) (fun _ _ _ h => h) (Or.inl ⟨by rfl, ?_⟩) (by assumption) ?_
              rotate_left
              · intro w' hSw; (try dsimp only at hSw); (try simp only [List.getElem_toArray, List.getElem_cons_zero, List.getElem_cons_succ]); go_simp; try with_reducible rfl
              (try simp only [List.getElem_toArray, List.getElem_cons_zero, List.getElem_cons_succ, Act.put, List.setIfInBounds_toArray, List.set_cons_zero, List.set_cons_succ])
              refine wpAnyH_take (i := 4) (v := ?_) rfl (by kernel_rfl) (by kernel_rfl) (by kernel_rfl) (fun _ _ _ h => h) (Or.inl ⟨by rfl, ?_⟩) (by assumption) ?_
              rotate_left
              · intro w' hSw; (try dsimp only at hSw); (try simp only [List.getElem_toArray, List.getElem_cons_zero, List.getElem_cons_succ]); go_simp; try with_reducible rfl
              (try simp only [List.getElem_toArray, List.getElem_cons_zero, List.getElem_cons_succ, Act.put, List.setIfInBounds_toArray, List.set_cons_zero, List.set_cons_succ])
              refine wpAnyH_ready (rs := [1, 5]) (by kernel_rfl) (by simp) ?_
              refine AllReadyH.cons rfl (fun K hK => ?_) (AllReadyH.cons rfl (fun K hK => ?_) AllReadyH.nil)
              · go_simp
                refine hK.out _ _ trivial (fun hHeld => ?_)
                clear hK K
                (try simp only [List.getElem_toArray, List.getElem_cons_zero, List.getElem_cons_succ, Act.put, List.setIfInBounds_toArray, List.set_cons_zero, List.set_cons_succ])
                refine wpAnyH_ready (rs := [5]) (by kernel_rfl) (by simp) ?_
                refine AllReadyH.cons rfl (fun K hK => ?_) AllReadyH.nil
                go_simp
                refine KT.out.mono ?_
                rintro e w2 hT
                obtain ⟨nm, p2, m2, c2, rfl, hC2, hF2⟩ := tmO_uni hT
                have CC2 : Hid (Ch r wr w2) := Lib.hid (Ch.trans (Ch.of (Below.refl _ _).drew) hC2)
                have FF2 : Hid (Fct r wr w2 (f tk) nm p2 m2 c2) := Lib.hid hF2
                have q1 : w2.cell? ⟨w.heap.size + 1, 1, none⟩ = some (.slice va M.length vc) := (hC2.has HT5.out hneT).two.2.1
                have q0 : w.heap.size + 1 < w2.heap.size := (hC2.has HT5.out hneT).lt
                clear hT hC2 hF2
                refine hK.out _ _ trivial (fun hHeld => ?_)
                clear hK K
                (try simp only [List.getElem_toArray, List.getElem_cons_zero, List.getElem_cons_succ, Act.put, List.setIfInBounds_toArray, List.set_cons_zero, List.set_cons_succ])
                refine wpAnyH_ready (rs := [6]) (by kernel_rfl) (by simp) ?_
                refine AllReadyH.cons rfl (fun K hK => ?_) AllReadyH.nil
                go_simp
                refine hK.out _ _ trivial (fun hHeld => ?_)
                clear hK K
                (try simp only [List.getElem_toArray, List.getElem_cons_zero, List.getElem_cons_succ, Act.put, List.setIfInBounds_toArray, List.set_cons_zero, List.set_cons_succ])
                refine wpAnyH_ready (rs := [7]) (by kernel_rfl) (by simp) ?_
                refine AllReadyH.cons rfl (fun K hK => ?_) AllReadyH.nil
                have hsz2 : w.heap.size + 2 ≤ w2.heap.size := Nat.le_trans hTsz CC2.out.size
                have A3 : w.heap.size + 2 ≤ (w2.alloc (.cells #[.string nm, .slice p2 m2 c2] 24)).heap.size := by rw [World.size_alloc]; omega
                refine Eq.mpr (if_pos (by rfl)) ?_
                refine wp_append_lies _ (.tmp 71) (.tmp 76) 22 rfl (w.heap.size + 2) 24 i0 (.agg #[.string ⟨#[]⟩, .slice none 0 0]) 2 40 Tryd.underlying22 HI.out.1 HI.out.2.1 HI.out.2.2.1 HI.out.2.2.2 rfl (by decide) (.slice va M.length vc) M.length (flatL M) rfl ((own_ch HOW.out CC2.out hrT).1.alloc _) ⟨w2.heap.size, 0, none⟩ 1 1 [.string nm, .slice p2 m2 c2] rfl rfl (news2 _ _ _ _) (one2 _ _ _ _) (by decide) A1.out A2.out A3 (w2.heap.size + 1) (by simp) ?_
                intro g5 cap5 w4 hown hgrow hat hlt5
                have HAF := Lib.hid (aft_of (M := M) hr HCH.out HZ.out HT5.out HOW.out CC2.out FF2.out hown hgrow hat)
                have hq : Has w4 (w.heap.size + 1) #[.string tx, .slice va M.length vc] := RefC0.Has.grown ((CC2.out.has HT5.out hneT).alloc _) hgrow (fun e => by have := (HOW.out.1.lt _ e).1; omega)
                obtain ⟨q2, q3, q4, q5, q6⟩ := hq.two
                clear hown hgrow hat hq q1 q0
                refine hK.out _ _ trivial (fun hHeld => ?_)
                clear hK K
                (try simp only [List.getElem_toArray, List.getElem_cons_zero, List.getElem_cons_succ, Act.put, List.setIfInBounds_toArray, List.set_cons_zero, List.set_cons_succ])
                refine wpAnyH_take (i := 8) (v := ?_) rfl (by kernel_rfl) (by kernel_rfl) (by kernel_rfl) (fun _ _ _ h => h) (Or.inl ⟨by rfl, ?_⟩) (by assumption) ?_
                rotate_left
                · intro w' hSw; (try dsimp only at hSw); (try simp only [List.getElem_toArray, List.getElem_cons_zero, List.getElem_cons_succ]); go_simp; try with_reducible rfl
                (try simp only [List.getElem_toArray, List.getElem_cons_zero, List.getElem_cons_succ, Act.put, List.setIfInBounds_toArray, List.set_cons_zero, List.set_cons_succ])
                refine wpAnyH_ready (rs := [9]) (by kernel_rfl) (by simp) ?_
                refine AllReadyH.cons rfl (fun K hK => ?_) AllReadyH.nil
                go_simp
                refine hK.out _ _ trivial (fun hHeld => ?_)
                clear hK K
                (try simp only [List.getElem_toArray, List.getElem_cons_zero, List.getElem_cons_succ, Act.put, List.setIfInBounds_toArray, List.set_cons_zero, List.set_cons_succ])
                refine wpAnyH_done (by kernel_rfl) ?_ _
                go_wp2_with fail
                go_meet
                exact HAF
              · go_simp
                refine KT.out.mono ?_
                rintro e w2 hT
                obtain ⟨nm, p2, m2, c2, rfl, hC2, hF2⟩ := tmO_uni hT
                have CC2 : Hid (Ch r wr w2) := Lib.hid (Ch.trans (Ch.of (Below.refl _ _).drew) hC2)
                have FF2 : Hid (Fct r wr w2 (f tk) nm p2 m2 c2) := Lib.hid hF2
                have q1 : w2.cell? ⟨w.heap.size + 1, 1, none⟩ = some (.slice va M.length vc) := (hC2.has HT5.out hneT).two.2.1
                have q0 : w.heap.size + 1 < w2.heap.size := (hC2.has HT5.out hneT).lt
                clear hT hC2 hF2
                refine hK.out _ _ trivial (fun hHeld => ?_)
                clear hK K
                (try simp only [List.getElem_toArray, List.getElem_cons_zero, List.getElem_cons_succ, Act.put, List.setIfInBounds_toArray, List.set_cons_zero, List.set_cons_succ])
                refine wpAnyH_ready (rs := [1, 6]) (by kernel_rfl) (by simp) ?_
                refine AllReadyH.cons rfl (fun K hK => ?_) (AllReadyH.cons rfl (fun K hK => ?_) AllReadyH.nil)
                · go_simp
                  refine hK.out _ _ trivial (fun hHeld => ?_)
                  clear hK K
                  (try simp only [List.getElem_toArray, List.getElem_cons_zero, List.getElem_cons_succ, Act.put, List.setIfInBounds_toArray, List.set_cons_zero, List.set_cons_succ])
                  refine wpAnyH_ready (rs := [6]) (by kernel_rfl) (by simp) ?_
                  refine AllReadyH.cons rfl (fun K hK => ?_) AllReadyH.nil
                  go_simp
                  refine hK.out _ _ trivial (fun hHeld => ?_)
                  clear hK K
                  (try simp only [List.getElem_toArray, List.getElem_cons_zero, List.getElem_cons_succ, Act.put, List.setIfInBounds_toArray, List.set_cons_zero, List.set_cons_succ])
                  refine wpAnyH_ready (rs := [7]) (by kernel_rfl) (by simp) ?_
                  refine AllReadyH.cons rfl (fun K hK => ?_) AllReadyH.nil
                  have hsz2 : w.heap.size + 2 ≤ w2.heap.size := Nat.le_trans hTsz CC2.out.size
                  have A3 : w.heap.size + 2 ≤ (w2.alloc (.cells #[.string nm, .slice p2 m2 c2] 24)).heap.size := by rw [World.size_alloc]; omega
                  refine Eq.mpr (if_pos (by rfl)) ?_
                  refine wp_append_lies _ (.tmp 71) (.tmp 76) 22 rfl (w.heap.size + 2) 24 i0 (.agg #[.string ⟨#[]⟩, .slice none 0 0]) 2 40 Tryd.underlying22 HI.out.1 HI.out.2.1 HI.out.2.2.1 HI.out.2.2.2 rfl (by decide) (.slice va M.length vc) M.length (flatL M) rfl ((own_ch HOW.out CC2.out hrT).1.alloc _) ⟨w2.heap.size, 0, none⟩ 1 1 [.string nm, .slice p2 m2 c2] rfl rfl (news2 _ _ _ _) (one2 _ _ _ _) (by decide) A1.out A2.out A3 (w2.heap.size + 1) (by simp) ?_
                  intro g5 cap5 w4 hown hgrow hat hlt5
                  have HAF := Lib.hid (aft_of (M := M) hr HCH.out HZ.out HT5.out HOW.out CC2.out FF2.out hown hgrow hat)
                  have hq : Has w4 (w.heap.size + 1) #[.string tx, .slice va M.length vc] := RefC0.Has.grown ((CC2.out.has HT5.out hneT).alloc _) hgrow (fun e => by have := (HOW.out.1.lt _ e).1; omega)
                  obtain ⟨q2, q3, q4, q5, q6⟩ := hq.two
                  clear hown hgrow hat hq q1 q0
                  refine hK.out _ _ trivial (fun hHeld => ?_)
                  clear hK K
                  (try simp only [List.getElem_toArray, List.getElem_cons_zero, List.getElem_cons_succ, Act.put, List.setIfInBounds_toArray, List.set_cons_zero, List.set_cons_succ])
                  refine wpAnyH_take (i := 8) (v := ?_) rfl (by kernel_rfl) (by kernel_rfl) (by kernel_rfl) (fun _ _ _ h => h) (Or.inl ⟨by rfl, ?_⟩) (by assumption) ?_
                  rotate_left
                  · intro w' hSw; (try dsimp only at hSw); (try simp only [List.getElem_toArray, List.getElem_cons_zero, List.getElem_cons_succ]); go_simp; try with_reducible rfl
                  (try simp only [List.getElem_toArray, List.getElem_cons_zero, List.getElem_cons_succ, Act.put, List.setIfInBounds_toArray, List.set_cons_zero, List.set_cons_succ])
                  refine wpAnyH_ready (rs := [9]) (by kernel_rfl) (by simp) ?_
                  refine AllReadyH.cons rfl (fun K hK => ?_) AllReadyH.nil
                  go_simp
                  refine hK.out _ _ trivial (fun hHeld => ?_)
                  clear hK K
                  (try simp only [List.getElem_toArray, List.getElem_cons_zero, List.getElem_cons_succ, Act.put, List.setIfInBounds_toArray, List.set_cons_zero, List.set_cons_succ])
                  refine wpAnyH_done (by kernel_rfl) ?_ _
                  go_wp2_with fail
                  go_meet
                  exact HAF
                · go_simp
                  refine hK.out _ _ trivial (fun hHeld => ?_)
                  clear hK K
                  (try simp only [List.getElem_toArray, List.getElem_cons_zero, List.getElem_cons_succ, Act.put, List.setIfInBounds_toArray, List.set_cons_zero, List.set_cons_succ])
                  refine wpAnyH_ready (rs := [1]) (by kernel_rfl) (by simp) ?_
                  refine AllReadyH.cons rfl (fun K hK => ?_) AllReadyH.nil
                  go_simp
                  refine hK.out _ _ trivial (fun hHeld => ?_)
                  clear hK K
                  (try simp only [List.getElem_toArray, List.getElem_cons_zero, List.getElem_cons_succ, Act.put, List.setIfInBounds_toArray, List.set_cons_zero, List.set_cons_succ])
                  refine wpAnyH_ready (rs := [7]) (by kernel_rfl) (by simp) ?_
                  refine AllReadyH.cons rfl (fun K hK => ?_) AllReadyH.nil
                  have hsz2 : w.heap.size + 2 ≤ w2.heap.size := Nat.le_trans hTsz CC2.out.size
                  have A3 : w.heap.size + 2 ≤ (w2.alloc (.cells #[.string nm, .slice p2 m2 c2] 24)).heap.size := by rw [World.size_alloc]; omega
                  refine Eq.mpr (if_pos (by rfl)) ?_
                  refine wp_append_lies _ (.tmp 71) (.tmp 76) 22 rfl (w.heap.size + 2) 24 i0 (.agg #[.string ⟨#[]⟩, .slice none 0 0]) 2 40 Tryd.underlying22 HI.out.1 HI.out.2.1 HI.out.2.2.1 HI.out.2.2.2 rfl (by decide) (.slice va M.length vc) M.length (flatL M) rfl ((own_ch HOW.out CC2.out hrT).1.alloc _) ⟨w2.heap.size, 0, none⟩ 1 1 [.string nm, .slice p2 m2 c2] rfl rfl (news2 _ _ _ _) (one2 _ _ _ _) (by decide) A1.out A2.out A3 (w2.heap.size + 1) (by simp) ?_
                  intro g5 cap5 w4 hown hgrow hat hlt5
                  have HAF := Lib.hid (aft_of (M := M) hr HCH.out HZ.out HT5.out HOW.out CC2.out FF2.out hown hgrow hat)
                  have hq : Has w4 (w.heap.size + 1) #[.string tx, .slice va M.length vc] := RefC0.Has.grown ((CC2.out.has HT5.out hneT).alloc _) hgrow (fun e => by have := (HOW.out.1.lt _ e).1; omega)
                  obtain ⟨q2, q3, q4, q5, q6⟩ := hq.two
                  clear hown hgrow hat hq q1 q0
                  refine hK.out _ _ trivial (fun hHeld => ?_)
                  clear hK K
                  (try simp only [List.getElem_toArray, List.getElem_cons_zero, List.getElem_cons_succ, Act.put, List.setIfInBounds_toArray, List.set_cons_zero, List.set_cons_succ])
                  refine wpAnyH_take (i := 8) (v := ?_) rfl (by kernel_rfl) (by kernel_rfl) (by kernel_rfl) (fun _ _ _ h => h) (Or.inl ⟨by rfl, ?_⟩) (by assumption) ?_
                  rotate_left
                  · intro w' hSw; (try dsimp only at hSw); (try simp only [List.getElem_toArray, List.getElem_cons_zero, List.getElem_cons_succ]); go_simp; try with_reducible rfl
                  (try simp only [List.getElem_toArray, List.getElem_cons_zero, List.getElem_cons_succ, Act.put, List.setIfInBounds_toArray, List.set_cons_zero, List.set_cons_succ])
                  refine wpAnyH_ready (rs := [9]) (by kernel_rfl) (by simp) ?_
                  refine AllReadyH.cons rfl (fun K hK => ?_) AllReadyH.nil
                  go_simp
                  refine hK.out _ _ trivial (fun hHeld => ?_)
                  clear hK K
                  (try simp only [List.getElem_toArray, List.getElem_cons_zero, List.getElem_cons_succ, Act.put, List.setIfInBounds_toArray, List.set_cons_zero, List.set_cons_succ])
                  refine wpAnyH_done (by kernel_rfl) ?_ _
                  go_wp2_with fail
                  go_meet
                  exact HAF
            case rest =>
              obtain ⟨hC6, hZ6, hA6⟩ := hcut.out
              have C6 := Lib.hid hC6
              have Z6 := Lib.hid hZ6
              clear hC6 hZ6 hcut hwrap KT HCH HZ HT5 HOW RD
              rcases hA6 with ⟨t6, tk6, v6, u6, hf6, hO6, hT6, hR6⟩ | ⟨a6, er6, p6, m6, c6, tk6, hf6, her6, hT6, hR6⟩
              · have hl6 : (M ++ [(t6, u6)]).length ≤ 4 := by rw [List.length_append]; simp; omega
                have HOM : Hid (O = if isB (hd tk6) sComma = true then goF f ((M ++ [(t6, u6)]).map (·.1)) tk6.tail else if isB (hd tk6) sShut = true then .good ((M ++ [(t6, u6)]).map (·.1)) tk6.tail else .bad (hd tk6).2.2 1) := Lib.hid (by
                  rw [← more_go f _ tk6 (by simp) (by rw [List.length_map]; exact hl6), HGO.out, hf6]
                  show moreF f (4 - M.length) (M.map (·.1) ++ [t6]) tk6 = _
                  simp only [List.map_append, List.map_cons, List.map_nil, List.length_append, List.length_map, List.length_cons, List.length_nil]
                  rw [show 5 - (M.length + (0 + 1)) = 4 - M.length by omega])
                have hlm6 : (M ++ [(t6, u6)]).length = M.length + 1 := by simp
                have T6 := Lib.hid hT6
                have R6 := Lib.hid hR6
                have O6 := Lib.hid hO6
                have HL6 := Lib.hid (And.intro hl6 hlm6)
                clear hf6 hT6 hR6 hO6 HGO hl6 hlm6
                generalize M ++ [(t6, u6)] = M6 at *
                cases hsh : isB (hd tk6) sShut with
                | true =>
                  have HOG : Hid (O = .good (M6.map (·.1)) tk6.tail) := Lib.hid (by rw [HOM.out, shut_comma hsh, hsh]; rfl)
                  have I6 := Lib.hid (is_yes wc r tk6 0 sShut (Or.inr (Or.inl rfl)) R6.out hsh)
                  have S6 := Lib.hid (fun w7 (k : Below wc.heap.size wc w7) => skip_yes w7 r tk6 0 sShut (Or.inr (Or.inl rfl)) lit_ne.2.1 (R6.out.below k) hsh)
                  obtain ⟨vb, vd, hv⟩ := O6.out.form
                  subst hv
                  clear HOM hsh
                  go_wp2_with fail
                  refine I6.out.mono ?_
                  rintro e w7 ⟨rfl, k7⟩
                  have S7 := Lib.hid (S6.out w7 k7)
                  have T7 := Lib.hid (T6.out.step0 k7)
                  have Z7 := Lib.hid (Z6.out.step0 k7)
                  have C7 := Lib.hid (C6.out.below k7)
                  have O7 := Lib.hid (O6.out.below k7)
                  clear k7 I6 S6
                  go_wp2_with fail
                  refine S7.out.mono ?_
                  rintro e w8 ⟨rfl, k1, k2⟩
                  have R8 := Lib.hid k1
                  have C8 := Lib.hid (C7.out.trans k2)
                  have SL := Lib.hid ((own_ch O7.out k2 hrT).slin)
                  obtain ⟨q1, q2, q3, q4, q5⟩ := (k2.has Z7.out hneZ).two
                  obtain ⟨q6, q7, _, _, _⟩ := (k2.has T7.out hneT).two
                  clear k1 k2 S7
                  have HLE := HL6.out.1
                  go_wp2_with fail
                  refine bodyPost_ret (v := .agg #[.string tx, .slice vb M6.length vd]) (by simp [results, Tryd.results99, go_sem, q1, q2]) rfl (Or.inl ⟨.mk tx (M6.map (·.1)), tk6.tail, vb, vd, by rw [HOT.out, HOG.out]; rfl, by simp [Tm.nm, Tm.args], ?_, NM.out, ?_, ?_⟩)
                  · have e6 : (Tm.mk tx (M6.map (·.1))).args.length = M6.length := by simp [Tm.args]
                    rw [e6]
                    refine (SL.out.frame (fun b o hk => ?_)).weaken (fun b hb => ?_)
                    · have hk1 := hk.1
                      exact (cell_set (by show b ≠ w.heap.size; omega) _).trans (cell_set (by show b ≠ w.heap.size; omega) _)
                    · have hb1 := hb.1
                      exact ⟨by omega, by rw [set_size, set_size]; exact hb.2⟩
                  · exact RR.far (RR.far R8.out (by exact hr) _) (by exact hr) _
                  · exact (C8.out.put (Or.inr (by exact Nat.le_refl _)) _).put (Or.inr (by exact Nat.le_refl _)) _
                | false =>
                  have I6 := Lib.hid (is_no wc r tk6 0 sShut R6.out hsh)
                  rw [hsh] at HOM
                  cases hco : isB (hd tk6) sComma with
                  | true =>
                    have HOG : Hid (O = goF f (M6.map (·.1)) tk6.tail) := Lib.hid (by rw [HOM.out, hco]; rfl)
                    have S6 := Lib.hid (fun w7 (k : Below wc.heap.size wc w7) => skip_yes w7 r tk6 0 sComma (Or.inr (Or.inr (Or.inl rfl))) lit_ne.2.2.1 (R6.out.below k) hco)
                    clear HOM hsh hco
                    go_wp2_with fail
                    refine I6.out.mono ?_
                    rintro e w7 ⟨rfl, k7⟩
                    have S7 := Lib.hid (S6.out w7 k7)
                    have T7 := Lib.hid (T6.out.step0 k7)
                    have Z7 := Lib.hid (Z6.out.step0 k7)
                    have C7 := Lib.hid (C6.out.below k7)
                    have O7 := Lib.hid (O6.out.below k7)
                    clear k7 I6 S6
                    go_wp2_with fail
                    refine S7.out.mono ?_
                    rintro e w8 ⟨rfl, k1, k2⟩
                    have FIN := Lib.hid (show LR f r w tx O (gk - 1) w8 from ⟨C7.out.trans k2, k2.has Z7.out hneZ, Or.inl ⟨M6, _, tk6.tail, by have := HL6.out.2; have := HMG.out; omega, HL6.out.1, HOG.out, own_ch O7.out k2 hrT, k2.has T7.out hneT, k1⟩⟩)
                    have hgk : 1 ≤ gk := by have := HMG.out; have := HM4.out; omega
                    clear k1 k2 S7
                    go_wp2_with fail
                    go_roundg (gk - 1)
                    case rel => exact FIN
                    case measure => omega
                  | false =>
                    have HOG : Hid (O = .bad (hd tk6).2.2 1) := Lib.hid (by rw [HOM.out, hco]; rfl)
                    have S6 := Lib.hid (fun w7 (k : Below wc.heap.size wc w7) => skip_no w7 r tk6 0 sComma (R6.out.below k) hco)
                    obtain ⟨vb, vd, hv⟩ := O6.out.form
                    subst hv
                    clear HOM hsh hco
                    go_wp2_with fail
                    refine I6.out.mono ?_
                    rintro e w7 ⟨rfl, k7⟩
                    have S7 := Lib.hid (S6.out w7 k7)
                    have T7 := Lib.hid (T6.out.step0 k7)
                    have Z7 := Lib.hid (Z6.out.step0 k7)
                    have C7 := Lib.hid (C6.out.below k7)
                    clear k7 I6 S6
                    go_wp2_with fail
                    refine S7.out.mono ?_
                    rintro e w8 ⟨rfl, k1, k2⟩
                    have FIN := Lib.hid (show LR f r w tx O (gk - 1) w8 from ⟨C7.out.trans k2, k2.has Z7.out hneZ, Or.inr ⟨vb, M6.length, vd, tk6, _, 1, by omega, HOG.out, by decide, k2.has T7.out hneT, k1⟩⟩)
                    have hgk : 1 ≤ gk := by have := HMG.out; have := HM4.out; omega
                    clear k1 k2 S7
                    go_wp2_with fail
                    go_roundg (gk - 1)
                    case rel => exact FIN
                    case measure => omega
              · have HOB : Hid (O = .bad a6 er6) := Lib.hid (by rw [HGO.out, hf6]; rfl)
                have I6 := Lib.hid (is_err wc r tk6 a6 er6 sShut hR6 her6)
                have T6 := Lib.hid hT6
                have R6 := Lib.hid hR6
                have E6 := Lib.hid her6
                have hgk : 1 ≤ gk := by have := HMG.out; have := HM4.out; omega
                clear hf6 hT6 hR6 her6 HGO
                go_wp2_with fail
                refine I6.out.mono ?_
                rintro e w7 ⟨rfl, k7⟩
                have R7 := Lib.hid (R6.out.below k7)
                have T7 := Lib.hid (T6.out.step0 k7)
                have Z7 := Lib.hid (Z6.out.step0 k7)
                have C7 := Lib.hid (C6.out.below k7)
                have S7 := Lib.hid (skip_err w7 r tk6 a6 er6 sComma R7.out E6.out)
                clear k7 I6
                go_wp2_with fail
                refine S7.out.mono ?_
                rintro e w8 ⟨rfl, k8⟩
                have FIN := Lib.hid (show LR f r w tx O (gk - 1) w8 from ⟨C7.out.below k8, Z7.out.step0 k8, Or.inr ⟨p6, m6, c6, tk6, a6, er6, by omega, HOB.out, E6.out, T7.out.step0 k8, R7.out.below k8⟩⟩)
                clear k8 S7
                go_wp2_with fail
                go_roundg (gk - 1)
                case rel => exact FIN
                case measure => omega
        · have hE : (er == 0) = false := by rw [beq_eq_false_iff_ne]; exact her
          have E7 := Lib.hid her
          have HTB : Hid (OT = .bad a er) := Lib.hid (by rw [HOT.out, hOB]; rfl)
          obtain ⟨_, _, _, _, _, _, _, _, _, _, _, _, _, x4, _⟩ := hRD.open
          have T7 := Lib.hid hT5
          have R7 := Lib.hid hRD
          clear hOB her hT5 hRD HOT
          have SK := Lib.hid (skip_err wr r tk a er sShut R7.out E7.out)
          go_wp2_with fail
          refine SK.out.mono ?_
          rintro e w9 ⟨rfl, k9⟩
          have C9 := Lib.hid (Ch.below HCH.out k9)
          have R9 := Lib.hid (RR.below R7.out k9)
          have hlt9 := Lib.hid hr
          obtain ⟨q1, q2, q3, q4, q5⟩ := (Has.step0 HZ.out k9).two
          obtain ⟨q6, q7, _, _, _⟩ := (Has.step0 T7.out k9).two
          clear SK k9
          go_wp2_with fail
          refine bodyPost_ret (v := .agg #[.string tx, .slice p m c]) (by simp [results, Tryd.results99, go_sem, q1, q2]) rfl (Or.inr ⟨a, er, tx, p, m, c, tk, HTB.out, rfl, ?_, E7.out, ?_⟩)
          · exact RR.far (RR.far R9.out (by exact hr) _) (by exact hr) _
          · exact (C9.out.put (Or.inr (by exact Nat.le_refl _)) _).put (Or.inr (by exact Nat.le_refl _)) _
end RefC
end Go.Proofs.YtfdpelokiljigaaDoor
