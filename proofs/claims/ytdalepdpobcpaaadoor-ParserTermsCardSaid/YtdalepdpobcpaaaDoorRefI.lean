/- The reference's Terms. Condition: the text's length. -/
import Derived.Test.YtdalepdpobcpaaaDoorRefH
import Derived.Test.YtdalepdpobcpaaaDoorParI
import Derived.Deep.LoopGhost
namespace Go.Proofs.YtdalepdpobcpaaaDoor
open Go Go.RowKit
namespace RefI
open Kit LexM TermM TermI TermU LexE LexF LexG LexP LexQ ParM ParA ParB ParC ParD ParK ParV ParN ParX ParX2 ParX3 ParLn RefA RefB RefC0 RefC RefD RefG
theorem term_len {d : Nat} {ts r : List GTok} {x : Tm} (h : termF d ts = .good x r) (h1 : 1 ≤ ts.length) : r.length < ts.length := by
  cases d with
  | zero =>
    rw [termF] at h
    split at h <;> cases h
  | succ d =>
    rw [termF] at h
    split at h
    · cases h
    · split at h
      · cases ha : argsF (termF d) ts.tail with
        | bad a e => rw [ha] at h; cases h
        | good l r1 =>
          rw [ha] at h
          cases h
          obtain ⟨n, rfl, _⟩ := loc_args _ (loc_term d) _ _ _ ha
          rw [List.length_drop, List.length_tail]
          omega
      · cases h
        rw [List.length_tail]
        omega
/-- What holds at the head of the loop over terms. -/
def LT (r B0 : Nat) (w : World) (OB : Out (List Tm)) (gk : Nat) (v : Value) (b : Bool) (wr : World) : Prop :=
  Below w.heap.size w wr ∧ B0 ≤ wr.heap.size ∧
  ((b = true ∧ ∃ (M : List (Tm × Value)) (ts : List GTok) (N : List GTok → Nat), ts.length ≤ gk ∧ M.length + ts.length ≤ 40000 ∧ OB = (termF 4 ts).then (fun t r => tmsF (N r) (M.map (·.1) ++ [t]) r) ∧ (∀ r2, r2.length < ts.length → r2.length + 1 ≤ N r2) ∧ Own B0 wr M v ∧ RR wr r ts 0 0) ∨
   (b = false ∧ ∃ (M : List (Tm × Value)) (ts : List GTok), OB = .good (M.map (·.1)) ts ∧ Own B0 wr M v ∧ RR wr r ts 0 0) ∨
   (b = false ∧ ∃ ts a er, OB = .bad a er ∧ er ≠ 0 ∧ RR wr r ts a er))
set_option maxRecDepth 100000 in
set_option maxHeartbeats 3200000 in
theorem rterms_any (s : ByteArray) (w : World) (hs : s.size ≤ 140737488355328) :
    Calls Tryd.prog 21 #[.string s] w (WtsR w (wholeF termsF s.data.toList)) := by
  by_cases h0 : (lexR s.data.toList).2.2 = 0
  case neg =>
    have BE := Lib.hid (begin_err s w hs h0)
    have HO : Hid (wholeF termsF s.data.toList = .bad (lexR s.data.toList).2.1 (lexR s.data.toList).2.2) := Lib.hid (by unfold wholeF; rw [if_neg h0])
    have hE : ((lexR s.data.toList).2.2 != 0) = true := by rw [bne_iff_ne]; exact h0
    have hE2 : ((lexR s.data.toList).2.2 == 0) = false := by rw [beq_eq_false_iff_ne]; exact h0
    have NZ := Lib.hid h0
    clear h0
    generalize wholeF termsF s.data.toList = O at *
    generalize (lexR s.data.toList).2.2 = er at *
    generalize (lexR s.data.toList).2.1 = at_ at *
    unfold WtsR
    go_enter Tryd.func21, Tryd.ntmps21
    go_wp2_with fail
    refine BE.out.mono ?_
    rintro e w2 ⟨r, rfl, hr, hH, hB⟩
    have HB := Lib.hid hB
    obtain ⟨x1, x2, x3, x4, f1, f2, f3, hrl⟩ := has4 hH
    clear hH hB BE
    go_upto_region 3 with fail
    go_quiet (fail)
    have HB3 := Lib.hid (below_drewN HB.out nq)
    have y3 : (w2.drewN nq).cell? ⟨r, 2, none⟩ = _ := x3
    have y4 : (w2.drewN nq).cell? ⟨r, 3, none⟩ = _ := x4
    have hrl3 : r < (w2.drewN nq).heap.size := hrl
    generalize w2.drewN nq = w3 at *
    clear x1 x2 x3 x4 f1 f2 f3 hrl
    clear nq
    go_wp2_with fail
    go_loopg [6, 7] 0 (fun gk v b wr => v = .slice none 0 0 ∧ b = .bool false ∧ wr = w3)
    case atStart => exact ⟨rfl, rfl, rfl⟩
    case round =>
      obtain ⟨rfl, rfl, rfl⟩ := hrel
      have EN := Lib.hid (end_err wr r er y4 NZ.out)
      go_wp2_with fail
      refine EN.out.mono ?_
      rintro e w5 ⟨rfl, k⟩
      have B5 := Lib.hid (next0 HB3.out k)
      have x2 := (k.cell (p := ⟨r, 2, none⟩) hrl3).trans y3
      have x3 := (k.cell (p := ⟨r, 3, none⟩) hrl3).trans y4
      have xl := Nat.lt_of_lt_of_le hrl3 k.size
      clear k EN
      go_upto_region 11 with fail
      go_quiet (fail)
      go_wp2_with fail
      refine bodyPost_ret (v := .tuple #[.slice none 0 0, .int .i64 at_, .int .i64 er]) (by simp [results, Tryd.results21, go_sem]) rfl (Or.inr ⟨at_, er, HO.out, rfl, below_drewN B5.out nq⟩)
  case pos =>
  have BO := Lib.hid (begin_ok s w hs h0)
  have LE := Lib.hid (lexR_end h0).2.2
  have HO : Hid (wholeF termsF s.data.toList = (termsF ((lexR s.data.toList).1.map gt)).then fun x r => if (hd r).1 = 0 then .good x [] else .bad (hd r).2.2 1) := Lib.hid (by unfold wholeF; rw [if_pos h0])
  clear h0
  generalize wholeF termsF s.data.toList = O at *
  generalize (lexR s.data.toList).1.map gt = T at *
  have HT : Hid (termsF T = if (hd T).1 = 0 then .good [] T else (termF 4 T).then fun t r => tmsF (r.length + 1) [t] r) := Lib.hid rfl
  generalize termsF T = OB at *
  unfold WtsR
  go_enter Tryd.func21, Tryd.ntmps21
  go_wp2_with fail
  refine BO.out.mono ?_
  rintro e w2 ⟨r, rfl, hr, hR, hB⟩
  have B2 := Lib.hid hB
  have R2 := Lib.hid hR
  obtain ⟨g, o, c, n, i, i1, i2, i3, i4, i5, x1, x2, x3, x4, f1, f2, f3, y1, y2, y3, y4⟩ := hR.open
  have hi1 : (i : Int) < (n : Int) := by omega
  have hi0 : 0 ≤ (i : Int) := by omega
  obtain ⟨bk, hbk⟩ : ∃ bk, ((hd T).1 != 0) = bk := ⟨_, rfl⟩
  have HBK := Lib.hid hbk
  clear hbk hR hB BO
  generalize hkk : (hd T).1 = kk at *
  have hbk := HBK.out
  clear hkk
  go_upto_region 3 with fail
  go_cut [7] (fun s7 wx => s7 = .bool bk ∧ Hid (∃ nq, wx = w2.drewN nq))
  case first =>
    cases bk
    all_goals
      go_quiet (fail)
      go_wp2_with fail
      go_meet
      exact ⟨rfl, Lib.hid ⟨nq, rfl⟩⟩
  case rest =>
  obtain ⟨rfl, hD⟩ := hcut
  obtain ⟨nq, rfl⟩ := hD.out
  have B3 := Lib.hid (below_drewN B2.out nq)
  have R3 := Lib.hid (R2.out.below (below_drewN (Below.refl _ w2) nq))
  have hB0 : w2.heap.size ≤ (w2.drewN nq).heap.size := (below_drewN (Below.refl w2.heap.size w2) nq).size
  have ST : Hid (LT r w2.heap.size w OB 20000 (.slice none 0 0) bk (w2.drewN nq)) := Lib.hid (by
    refine ⟨B3.out, hB0, ?_⟩
    cases bk
    · have hk : kk = 0 := by have := HBK.out; rw [bne_eq_false_iff_eq] at this; exact this
      exact Or.inr (Or.inl ⟨rfl, [], T, by rw [HT.out, if_pos hk]; rfl, Own.nil _ _, R3.out⟩)
    · have hk : kk ≠ 0 := by have := HBK.out; rw [bne_iff_ne] at this; exact this
      exact Or.inl ⟨rfl, [], T, fun r => r.length + 1, LE.out, by have := LE.out; simp; omega, by rw [HT.out, if_neg hk]; rfl, fun r2 _ => Nat.le_refl _, Own.nil _ _, R3.out⟩)
  have hrB : r < w2.heap.size := i3
  have hrw := hr
  clear x1 x2 x3 x4 f1 f2 f3 y1 y2 y3 y4 i1 i2 i3 i4 i5 hi1 hi0 R2 R3 B3 hD hB0 HBK hbk HT LE
  generalize hB0v : w2.heap.size = B0 at *
  generalize w2.drewN nq = w3 at *
  clear hB0v
  go_wp2_with fail
  obtain ⟨i0, hi, hz0, hz1, hz2⟩ := info_parts Tryd.info28
  have HI := Lib.hid (And.intro hi (And.intro hz0 (And.intro hz1 hz2)))
  clear hi hz0 hz1 hz2
  go_loopg [6, 7] 20000 (fun gk v b wr => ∃ b', b = .bool b' ∧ Hid (LT r B0 w OB gk v b' wr))
  case atStart => exact ⟨bk, rfl, ST⟩
  case round =>
    clear ST
    obtain ⟨b', rfl, hL⟩ := hrel
    obtain ⟨hBw, hBs, hrr⟩ := hL.out
    have BW := Lib.hid hBw
    clear hL hBw
    rcases hrr with ⟨rfl, M, ts, N, hg, hML, hOB, hN, hOw, hRD⟩ | ⟨rfl, M, ts, hOB, hOw, hRD⟩ | ⟨rfl, ts, a, er, hOB, her, hRD⟩
    · obtain ⟨va, vc, hv⟩ := hOw.form
      subst hv
      have HOW := Lib.hid hOw
      have RD := Lib.hid hRD
      have HOB := Lib.hid hOB
      have HN := Lib.hid hN
      have HG := Lib.hid (And.intro hg hML)
      have A1 : Hid (M.length + 1 ≤ maxLen) := Lib.hid (by unfold maxLen; omega)
      have A2 : Hid ((M.length + 1) * 40 ≤ 140737488355328) := Lib.hid (by omega)
      have hts1 := Lib.hid hRD.wf.ne
      have KT := Lib.hid (tm_top r wr ts hRD)
      obtain ⟨_, _, _, _, _, _, _, _, _, _, _, _, _, x4, _⟩ := hRD.open
      clear hOw hRD hOB hN hg hML
      go_wp2_with fail
      refine KT.out.mono ?_
      rintro e w2' hT
      obtain ⟨nm, p2, m2, c2, rfl, hC2, hF2⟩ := tmO_uni hT
      have CC2 := Lib.hid hC2
      have FF2 := Lib.hid hF2
      have hb2 : Below w.heap.size wr w2' := hC2.toBelow (by omega) BW.out.size
      have BW2 := Lib.hid (BW.out.trans hb2)
      have hsz2 : B0 ≤ w2'.heap.size := Nat.le_trans hBs hC2.size
      have A3 : B0 ≤ (w2'.alloc (.cells #[.string nm, .slice p2 m2 c2] 31)).heap.size := by rw [World.size_alloc]; omega
      clear hT hC2 hF2 hb2 KT x4
      go_wp2_with (at_builtin; refine wpList_append_lies _ rfl _ _ 29 rfl B0 31 i0 (.agg #[.string ⟨#[]⟩, .slice none 0 0]) 2 40 Tryd.underlying29 HI.out.1 HI.out.2.1 HI.out.2.2.1 HI.out.2.2.2 rfl (by decide) (.slice va M.length vc) M.length (flatL M) rfl ((own_ch HOW.out CC2.out hrB).1.alloc _) ⟨w2'.heap.size, 0, none⟩ 1 1 [.string nm, .slice p2 m2 c2] rfl rfl (news2 _ _ _ _) (one2 _ _ _ _) (by decide) A1.out A2.out A3 (w2'.heap.size + 1) (by simp) ?_; intro g5 cap5 w4 hown hgrow hat hlt5)
      have hvb : ∀ k, (Value.slice va M.length vc).ownBlock = some k → B0 ≤ k ∧ k < wr.heap.size := fun k hk => HOW.out.1.lt k hk
      have hRR : ∀ {tk : List GTok} {a e : Int}, RR w2' r tk a e → RR w4 r tk a e := fun {tk a e} h => RR.grown (RR.alloc h _) hgrow (fun k hk => by have := (hvb k hk).1; omega)
      have BW4 := Lib.hid ((BW2.out.alloc BW2.out.size (.cells #[.string nm, .slice p2 m2 c2] 31)).grown hgrow (by rw [World.size_alloc]; have := BW2.out.size; omega) (fun k hk => by have := (hvb k hk).1; have := hrw; omega))
      have hs4 := Lib.hid (Nat.le_trans A3 hgrow.size)
      rcases FF2.out with ⟨t6, tk6, hf6, e1, e2, hs6, hn6, hR6⟩ | ⟨a6, er6, tk6, hf6, her6, hR6⟩
      · subst e1 e2
        have O4 := Lib.hid ((own_ch HOW.out CC2.out hrB).add (lo := wr.heap.size) hs6 hn6 hBs (fun k hk => (hvb k hk).2) hown hgrow hat)
        have R4 := Lib.hid (hRR hR6)
        have hlt6 := term_len hf6 hts1.out
        have HB6 : Hid (OB = tmsF (N tk6) ((M ++ [(t6, Value.slice p2 t6.args.length c2)]).map (·.1)) tk6) := Lib.hid (by rw [HOB.out, hf6]; show tmsF (N tk6) (M.map (·.1) ++ [t6]) tk6 = _; rw [List.map_append]; rfl)
        obtain ⟨n6, hn7⟩ : ∃ n6, N tk6 = n6 + 1 := ⟨N tk6 - 1, by have := HN.out tk6 hlt6; omega⟩
        have hNn := HN.out tk6 hlt6
        rw [hn7] at HB6 hNn
        have HNN := Lib.hid (And.intro hNn hlt6)
        have HML : Hid ((M ++ [(t6, Value.slice p2 t6.args.length c2)]).length = M.length + 1) := Lib.hid (by simp)
        clear hf6 hs6 hn6 hR6 hlt6 hn7 hNn hown hgrow hat hlt5 hvb hRR FF2 CC2 BW2 HOB HN A3 hsz2
        cases hco : isB (hd tk6) sComma with
        | true =>
          have I4 := Lib.hid (is_yes w4 r tk6 0 sComma (Or.inr (Or.inr (Or.inl rfl))) R4.out hco)
          have NE := Lib.hid (isB_ne hco lit_ne.2.2.1)
          have HB7 : Hid (OB = (termF 4 tk6.tail).then fun t r => tmsF n6 ((M ++ [(t6, Value.slice p2 t6.args.length c2)]).map (·.1) ++ [t]) r) := Lib.hid (by rw [HB6.out, tmsF, if_pos hco])
          clear hco HB6
          generalize M ++ [(t6, Value.slice p2 t6.args.length c2)] = M6 at *
          go_wp2_with fail
          refine I4.out.mono ?_
          rintro e w7 ⟨rfl, k7⟩
          have R7 := Lib.hid (R4.out.below k7)
          have O7 := Lib.hid (O4.out.below k7)
          have B7 := Lib.hid (next0 BW4.out k7)
          have hs7 := Lib.hid (Nat.le_trans hs4.out k7.size)
          clear k7 I4
          obtain ⟨g, o, c, n, i, i1, i2, i3, i4, i5, x1, x2, x3, x4, f1, f2, f3, _⟩ := R7.out.open
          have hi1 : (i : Int) < 20000 := by omega
          have hi0 : 0 ≤ (i : Int) := by omega
          have FIN := Lib.hid (show LT r B0 w OB (gk - 1) (.slice (some ⟨g5, 0, none⟩) (M.length + 1) cap5) true (w7.setCell ⟨r, 1, none⟩ (.int .i64 ((i : Int) + 1))) from
            ⟨B7.out.setCell (by show w.heap.size ≤ r; omega) _, by rw [set_size]; exact hs7.out, Or.inl ⟨rfl, M6, tk6.tail, fun _ => n6, by have := HNN.out.2; have := HG.out.1; rw [List.length_tail]; omega, by have := HML.out; have := HNN.out.2; have := HG.out.2; rw [List.length_tail]; omega, HB7.out, fun r2 h2 => by have := HNN.out.1; rw [List.length_tail] at h2; show r2.length + 1 ≤ n6; omega, O7.out.far (by exact hrB) _, R7.out.pass (Or.inr NE.out) x2⟩⟩)
          have hgk : 1 ≤ gk := by have := HG.out.1; have := hts1.out; omega
          go_wp2_with fail
          go_roundg (gk - 1)
          case rel => exact ⟨true, rfl, FIN⟩
          case measure => omega
        | false =>
          have I4 := Lib.hid (is_no w4 r tk6 0 sComma R4.out hco)
          have HB7 : Hid (OB = .good ((M ++ [(t6, Value.slice p2 t6.args.length c2)]).map (·.1)) tk6) := Lib.hid (by rw [HB6.out, tmsF, if_neg (by rw [hco]; decide)])
          clear hco HB6
          generalize M ++ [(t6, Value.slice p2 t6.args.length c2)] = M6 at *
          go_wp2_with fail
          refine I4.out.mono ?_
          rintro e w7 ⟨rfl, k7⟩
          have FIN := Lib.hid (show LT r B0 w OB (gk - 1) (.slice (some ⟨g5, 0, none⟩) (M.length + 1) cap5) false w7 from
            ⟨next0 BW4.out k7, Nat.le_trans hs4.out k7.size, Or.inr (Or.inl ⟨rfl, M6, tk6, HB7.out, O4.out.below k7, R4.out.below k7⟩)⟩)
          have hgk : 1 ≤ gk := by have := HG.out.1; have := hts1.out; omega
          clear k7 I4
          go_wp2_with fail
          go_roundg (gk - 1)
          case rel => exact ⟨false, rfl, FIN⟩
          case measure => omega
      · have R4 := Lib.hid (hRR hR6)
        have HB7 : Hid (OB = .bad a6 er6) := Lib.hid (by rw [HOB.out, hf6]; rfl)
        have I4 := Lib.hid (is_err w4 r tk6 a6 er6 sComma R4.out her6)
        have E6 := Lib.hid her6
        clear hf6 her6 hR6 hown hgrow hat hlt5 hvb hRR FF2 CC2 BW2 HOB HN A3 hsz2
        go_wp2_with fail
        refine I4.out.mono ?_
        rintro e w7 ⟨rfl, k7⟩
        have FIN := Lib.hid (show LT r B0 w OB (gk - 1) (.slice (some ⟨g5, 0, none⟩) (M.length + 1) cap5) false w7 from
          ⟨next0 BW4.out k7, Nat.le_trans hs4.out k7.size, Or.inr (Or.inr ⟨rfl, tk6, a6, er6, HB7.out, E6.out, R4.out.below k7⟩)⟩)
        have hgk : 1 ≤ gk := by have := HG.out.1; have := hts1.out; omega
        clear k7 I4
        go_wp2_with fail
        go_roundg (gk - 1)
        case rel => exact ⟨false, rfl, FIN⟩
        case measure => omega
    · obtain ⟨va, vc, hv⟩ := hOw.form
      subst hv
      have OW := Lib.hid hOw
      have RD := Lib.hid hRD
      have HO2 : Hid (O = if (hd ts).1 = 0 then .good (M.map (·.1)) [] else .bad (hd ts).2.2 1) := Lib.hid (by rw [HO.out, hOB]; rfl)
      obtain ⟨_, _, _, _, _, _, _, _, _, _, _, _, _, x4, _⟩ := hRD.open
      clear hOw hRD hOB
      by_cases hk : (hd ts).1 = 0
      · have EN := Lib.hid (end_no wr r ts RD.out hk)
        have HO3 : Hid (O = .good (M.map (·.1)) []) := Lib.hid (by rw [HO2.out, if_pos hk])
        clear hk HO2
        go_wp2_with fail
        refine EN.out.mono ?_
        rintro e w5 ⟨rfl, k⟩
        have B5 := Lib.hid (next0 BW.out k)
        have S5 := Lib.hid ((OW.out.below k).slin)
        obtain ⟨_, _, _, _, _, _, _, _, _, _, _, _, _, x4', _⟩ := (RD.out.below k).open
        have hML : Hid ((M.map (·.1)).length = M.length) := Lib.hid (by simp)
        have hw0 : w.heap.size ≤ B0 := by omega
        clear k EN x4
        go_wp2_with fail
        refine bodyPost_ret (v := .tuple #[.slice va M.length vc, .int .i64 0, .int .i64 0]) (by simp [results, Tryd.results21, go_sem]) rfl (Or.inl ⟨M.map (·.1), va, vc, HO3.out, by rw [hML.out], ?_, B5.out⟩)
        rw [hML.out]
        exact S5.out.weaken fun b hb => ⟨Nat.le_trans hw0 hb.1, hb.2⟩
      · have EN := Lib.hid (end_yes wr r ts RD.out hk)
        have HO3 : Hid (O = .bad (hd ts).2.2 1) := Lib.hid (by rw [HO2.out, if_neg hk])
        clear hk HO2
        go_wp2_with fail
        refine EN.out.mono ?_
        rintro e w5 ⟨rfl, k1, k2⟩
        have B5 := Lib.hid (BW.out.trans (k2.toBelow (B := w.heap.size) (by omega) BW.out.size))
        obtain ⟨_, _, _, _, _, _, _, xl, _, _, _, _, x3, x4', _⟩ := k1.open
        generalize (hd ts).2.2 = at_ at *
        clear k1 k2 EN x4
        go_upto_region 11 with fail
        go_quiet (fail)
        go_wp2_with fail
        refine bodyPost_ret (v := .tuple #[.slice none 0 0, .int .i64 at_, .int .i64 1]) (by simp [results, Tryd.results21, go_sem]) rfl (Or.inr ⟨at_, 1, HO3.out, rfl, below_drewN B5.out nq⟩)
    · have HO3 : Hid (O = .bad a er) := Lib.hid (by rw [HO.out, hOB]; rfl)
      have hE : (er != 0) = true := by rw [bne_iff_ne]; exact her
      have hE2 : (er == 0) = false := by rw [beq_eq_false_iff_ne]; exact her
      obtain ⟨_, _, _, _, _, _, _, hlt, _, _, _, _, x3, x4, _⟩ := hRD.open
      have NZ := Lib.hid her
      clear hOB her hRD
      have EN := Lib.hid (end_err wr r er x4 NZ.out)
      go_wp2_with fail
      refine EN.out.mono ?_
      rintro e w5 ⟨rfl, k⟩
      have B5 := Lib.hid (next0 BW.out k)
      have x2 := (k.cell (p := ⟨r, 2, none⟩) hlt).trans x3
      have x3 := (k.cell (p := ⟨r, 3, none⟩) hlt).trans x4
      have xl := Nat.lt_of_lt_of_le hlt k.size
      clear k EN
      go_upto_region 11 with fail
      go_quiet (fail)
      go_wp2_with fail
      refine bodyPost_ret (v := .tuple #[.slice none 0 0, .int .i64 a, .int .i64 er]) (by simp [results, Tryd.results21, go_sem]) rfl (Or.inr ⟨a, er, HO3.out, rfl, below_drewN B5.out nq⟩)
end RefI
end Go.Proofs.YtdalepdpobcpaaaDoor
