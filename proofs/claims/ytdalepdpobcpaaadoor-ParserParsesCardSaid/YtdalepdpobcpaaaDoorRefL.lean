/- The reference's Parse; the walk of ParserParses. Conditions: the text's length; for the law: the reserved words lie as laid. -/
import Derived.Test.YtdalepdpobcpaaaDoorRefG
import Derived.Test.YtdalepdpobcpaaaDoorRefJ
import Derived.Test.YtdalepdpobcpaaaDoorParAx
import Derived.Deep.LoopGhost
namespace Go.Proofs.YtdalepdpobcpaaaDoor
open Go Go.RowKit
namespace RefL
open Kit LexM TermM TermI TermU LexE LexF LexG LexP LexQ ParM ParA ParB ParC ParD ParK ParE ParG ParV ParN ParX ParX2 ParX3 RefA RefB RefC0 RefC RefD RefF RefJ0 RefJ RefG
/-- What a call that reads a rule answers, good or bad. -/
def UR (r : Nat) (w : World) (o : Out Rl) (e : Ending) (w2 : World) : Prop := ∃ nm p m c q n d, e = .returned (.agg #[.string nm, .slice p m c, .slice q n d]) ∧ Ch r w w2 ∧
  ((∃ x ts, o = .good x ts ∧ nm = x.1.nm ∧ m = x.1.args.length ∧ n = x.2.length ∧ KR.inn (fun b => w.heap.size ≤ b ∧ b < w2.heap.size) w2 (x, .slice p m c, .slice q n d) ∧ RR w2 r ts 0 0) ∨ (∃ a er ts, o = .bad a er ∧ er ≠ 0 ∧ RR w2 r ts a er))
theorem ur_ok {r : Nat} {w : World} {ts : List GTok} (h : RR w r ts 0 0) : Calls Tryd.prog 31 #[.pointer (some ⟨r, 0, none⟩)] w (UR r w (ruleF ts)) :=
  (rule_any r w ts h).mono fun e w2 h => by
    rcases h with ⟨x, ts, p, c, q, d, h1, h2, h3, h4, h5⟩ | ⟨a, er, nm, p, m, c, q, n, d, ts, h1, h2, h3, h4, h5⟩
    · exact ⟨_, _, _, _, _, _, _, h2, h5, Or.inl ⟨x, ts, h1, rfl, rfl, rfl, h3, h4⟩⟩
    · exact ⟨_, _, _, _, _, _, _, h2, h5, Or.inr ⟨a, er, ts, h1, h4, h3⟩⟩
/-- What holds at the head of the loop over rules. -/
def LD (r B0 : Nat) (w : World) (OB : Out (List Rl)) (gk : Nat) (v : Value) (wr : World) : Prop :=
  Below w.heap.size w wr ∧ B0 ≤ wr.heap.size ∧
  ((∃ (M : List (Rl × Value × Value)) (ts : List GTok), M.length + gk = 129 ∧ M.length ≤ 128 ∧ OB = descF (129 - M.length) (M.map (·.1)) ts ∧ OwnG KR B0 wr M v ∧ RR wr r ts 0 0) ∨
   (∃ ts a er, OB = .bad a er ∧ er ≠ 0 ∧ RR wr r ts a er))
theorem len7 {n : Nat} {ts r : List GTok} {x : Rl} (h : ruleF ts = .good x r) (h1 : (decide (n = 128) && atomB (hd ts)) = false) (h8 : n ≤ 128) : n ≤ 127 := by
  rcases Nat.lt_or_ge n 128 with hl | hl
  · omega
  · exfalso
    have hn : n = 128 := by omega
    rw [hn] at h1
    have hb : atomB (hd ts) = false := by simpa using h1
    obtain ⟨a, e, he⟩ := rule_bad hb
    rw [he] at h
    cases h
set_option maxRecDepth 100000 in
set_option maxHeartbeats 3200000 in
theorem rparse_any (s : ByteArray) (w : World) (hs : s.size ≤ 140737488355328) :
    Calls Tryd.prog 13 #[.string s] w (WdsR w (wholeF (descF 129 []) s.data.toList)) := by
  by_cases h0 : (lexR s.data.toList).2.2 = 0
  case neg =>
    have BE := Lib.hid (begin_err s w hs h0)
    have HO : Hid (wholeF (descF 129 []) s.data.toList = .bad (lexR s.data.toList).2.1 (lexR s.data.toList).2.2) := Lib.hid (by unfold wholeF; rw [if_neg h0])
    have hE : ((lexR s.data.toList).2.2 != 0) = true := by rw [bne_iff_ne]; exact h0
    have hE2 : ((lexR s.data.toList).2.2 == 0) = false := by rw [beq_eq_false_iff_ne]; exact h0
    clear h0
    generalize wholeF (descF 129 []) s.data.toList = O at *
    generalize (lexR s.data.toList).2.2 = er at *
    generalize (lexR s.data.toList).2.1 = at_ at *
    unfold WdsR
    go_enter Tryd.func13, Tryd.ntmps13
    go_wp2_with fail
    refine BE.out.mono ?_
    rintro e w2 ⟨r, rfl, hr, hH, hB⟩
    have HB := Lib.hid hB
    obtain ⟨x1, x2, x3, x4, f1, f2, f3, hrl⟩ := has4 hH
    clear hH hB BE
    go_wp2_with fail
    go_loopg [6] 0 (fun gk v wr => v = .slice none 0 0 ∧ wr = w2)
    case atStart => exact ⟨rfl, rfl⟩
    case round =>
      obtain ⟨rfl, rfl⟩ := hrel
      go_upto_region 3 with fail
      go_quiet (fail)
      have B4 := Lib.hid (below_drewN HB.out nq)
      have y3 : (wr.drewN nq).cell? ⟨r, 2, none⟩ = _ := x3
      have y4 : (wr.drewN nq).cell? ⟨r, 3, none⟩ = _ := x4
      have hrl3 : r < (wr.drewN nq).heap.size := hrl
      generalize wr.drewN nq = w4 at *
      clear nq x1 x2 x3 x4 f1 f2 f3 hrl
      go_upto_region 8 with fail
      go_quiet (fail)
      go_wp2_with fail
      refine bodyPost_ret (v := .tuple #[.slice none 0 0, .int .i64 at_, .int .i64 er]) (by simp [results, Tryd.results13, go_sem]) rfl (Or.inr ⟨at_, er, HO.out, rfl, below_drewN B4.out nq⟩)
  case pos =>
  have BO := Lib.hid (begin_ok s w hs h0)
  have HO : Hid (wholeF (descF 129 []) s.data.toList = (descF 129 [] ((lexR s.data.toList).1.map gt)).then fun x r => if (hd r).1 = 0 then .good x [] else .bad (hd r).2.2 1) := Lib.hid (by unfold wholeF; rw [if_pos h0])
  clear h0
  generalize wholeF (descF 129 []) s.data.toList = O at *
  generalize (lexR s.data.toList).1.map gt = T at *
  obtain ⟨OB, hOB⟩ : ∃ OB, OB = descF 129 [] T := ⟨_, rfl⟩
  have HOBs := Lib.hid hOB
  rw [← hOB] at HO
  clear hOB
  unfold WdsR
  go_enter Tryd.func13, Tryd.ntmps13
  go_wp2_with fail
  refine BO.out.mono ?_
  rintro e w3 ⟨r, rfl, hr, hR, hB⟩
  obtain ⟨B0, hB0⟩ : ∃ B0, B0 = w3.heap.size := ⟨_, rfl⟩
  have ST := Lib.hid (show LD r B0 w OB 129 (.slice none 0 0) w3 from ⟨hB, Nat.le_of_eq hB0, Or.inl ⟨[], T, rfl, by simp, HOBs.out, OwnG.nil _ _, hR⟩⟩)
  have hrB : r < B0 := by rw [hB0]; exact hR.lt
  have hrw := hr
  clear hR hB BO hB0 HOBs
  obtain ⟨i0, hi, hz0, hz1, hz2⟩ := info_parts Tryd.infoR
  have HI := Lib.hid (And.intro hi (And.intro hz0 (And.intro hz1 hz2)))
  clear hi hz0 hz1 hz2
  go_wp2_with fail
  go_loopg [6] 129 (fun gk v wr => Hid (LD r B0 w OB gk v wr))
  case atStart => exact ST
  case round =>
    clear ST
    obtain ⟨hBw, hBs, hrr⟩ := hrel.out
    have BW := Lib.hid hBw
    clear hBw hrel
    rcases hrr with ⟨M, ts, hMG, hM8, hOB, hOw, hRD⟩ | ⟨ts, a, er, hOB, her, hRD⟩
    · obtain ⟨va, vc, hv⟩ := hOw.form
      subst hv
      have HG := Lib.hid (And.intro hMG hM8)
      have A1 : Hid (M.length + 1 ≤ maxLen) := Lib.hid (by unfold maxLen; omega)
      have A2 : Hid ((M.length + 1) * 64 ≤ 140737488355328) := Lib.hid (by omega)
      have RD := Lib.hid hRD
      have HOW := Lib.hid hOw
      obtain ⟨n9, hn9⟩ : ∃ n9, 129 - M.length = n9 + 1 := ⟨128 - M.length, by omega⟩
      have hOB2 : OB = if (hd ts).1 = 0 then .good (M.map (·.1)) ts else if (decide (M.length = 128) && atomB (hd ts)) = true then .bad (hd ts).2.2 2 else (ruleF ts).then fun x r => descF (128 - M.length) (M.map (·.1) ++ [x]) r := by
        rw [hOB, hn9, descF, List.length_map, show n9 = 128 - M.length by omega]
      have HD := Lib.hid hOB2
      obtain ⟨g, o, c, n, i, i1, i2, i3, i4, i5, x1, x2, x3, x4, f1, f2, f3, y1, y2, y3, y4⟩ := hRD.open
      have hi1 : (i : Int) < (n : Int) := by omega
      have hi0 : 0 ≤ (i : Int) := by omega
      obtain ⟨k, hk⟩ : ∃ k, (hd ts).1 = k := ⟨_, rfl⟩
      have HK := Lib.hid hk
      rw [hk] at y1
      clear hMG hM8 hOB hOw hRD hk hOB2 hn9
      by_cases hk0 : k = 0
      · have HO2 : Hid (O = .good (M.map (·.1)) []) := Lib.hid (by
          have e1 : OB = .good (M.map (·.1)) ts := by rw [HD.out, if_pos (HK.out.trans hk0)]
          rw [HO.out, e1]
          show (if (hd ts).1 = 0 then Out.good (M.map (·.1)) [] else _) = _
          rw [if_pos (HK.out.trans hk0)])
        subst hk0
        clear HD HK
        go_upto_region 3 with fail
        go_quiet (fail)
        have B4 := Lib.hid (below_drewN BW.out nq)
        have z4 : (wr.drewN nq).cell? ⟨r, 3, none⟩ = _ := x4
        have S4 := Lib.hid ((OwnG.ch (r := r) HOW.out (Ch.of (below_drewN (Below.refl _ wr) nq)) hrB).row)
        have hML : Hid ((M.map (·.1)).length = M.length) := Lib.hid (by simp)
        have hw0 : w.heap.size ≤ B0 := by omega
        generalize wr.drewN nq = w5 at *
        clear x1 x2 x3 x4 f1 f2 f3 y1 y2 y3 y4 i1 i2 i3 i4 i5 hi1 hi0 nq
        go_wp2_with fail
        refine bodyPost_ret (v := .tuple #[.slice va M.length vc, .int .i64 0, .int .i64 0]) (by simp [results, Tryd.results13, go_sem]) rfl (Or.inl ⟨M.map (·.1), va, vc, HO2.out, by rw [hML.out], ⟨M, rfl, ?_⟩, B4.out⟩)
        rw [hML.out]
        exact S4.out.wide fun b hb => ⟨Nat.le_trans hw0 hb.1, hb.2⟩
      · have hkn : (k != 0) = true := by rw [bne_iff_ne]; exact hk0
        have HD2 : Hid (OB = if (decide (M.length = 128) && atomB (hd ts)) = true then .bad (hd ts).2.2 2 else (ruleF ts).then fun x r => descF (128 - M.length) (M.map (·.1) ++ [x]) r) := Lib.hid (by rw [HD.out, if_neg (by rw [HK.out]; exact hk0)])
        clear hk0 HD
        obtain ⟨tl, htl⟩ : ∃ tl, tl = (decide (M.length = 128) && atomB (hd ts)) := ⟨_, rfl⟩
        have HTL := Lib.hid htl
        have HAT : Hid (atomB (hd ts) = (k == 1)) := Lib.hid (by unfold atomB; rw [HK.out])
        clear htl
        go_upto_region 3 with fail
        go_quiet (fail)
        have BW := Lib.hid (below_drewN BW.out nq)
        have hD : Below wr.heap.size wr (wr.drewN nq) := below_drewN (Below.refl _ wr) nq
        have RD := Lib.hid (RD.out.below hD)
        have HOW := Lib.hid (OwnG.ch (r := r) HOW.out (Ch.of hD) hrB)
        have hBs := Nat.le_trans hBs hD.size
        clear x1 x2 x3 x4 f1 f2 f3 y1 y2 y3 y4 i1 i2 i3 i4 i5 hi1 hi0 hD
        generalize wr.drewN nq = w5 at *
        clear nq
        obtain ⟨g, o, c, n, i, i1, i2, i3, i4, i5, x1, x2, x3, x4, f1, f2, f3, y1, y2, y3, y4⟩ := RD.out.open
        have hi1 : (i : Int) < (n : Int) := by omega
        have hi0 : 0 ≤ (i : Int) := by omega
        rw [HK.out] at y1
        go_upto_region 4 with fail
        go_cut [44] (fun s44 wx => s44 = .bool tl ∧ Hid (Below w5.heap.size w5 wx))
        case first =>
          by_cases h8 : M.length = 128
          · have e8 : ((M.length : Int) == 128) = true := by rw [h8]; rfl
            have e8' : (M.length == 128) = true := by rw [h8]; rfl
            have H8 := Lib.hid h8
            clear h8
            have HTL2 : Hid (tl = (k == 1)) := Lib.hid (by have := HTL.out; rw [H8.out, HAT.out] at this; simpa using this)
            clear HTL HAT HD2
            obtain ⟨kb, hkb⟩ : ∃ kb, (k == 1) = kb := ⟨_, rfl⟩
            obtain rfl : tl = kb := HTL2.out.trans hkb
            cases tl
            all_goals
              go_quiet (fail)
              go_wp2_with fail
              go_meet
              exact ⟨rfl, Lib.hid (below_drewN (Below.refl _ _) nq)⟩
          · have e8 : ((M.length : Int) == 128) = false := by rw [beq_eq_false_iff_ne]; omega
            have e8' : (M.length == 128) = false := by rw [beq_eq_false_iff_ne]; exact h8
            obtain rfl : tl = false := by have := HTL.out; simp [h8] at this; exact this
            have H8 := Lib.hid h8
            clear h8 HTL HD2
            go_quiet (fail)
            go_wp2_with fail
            go_meet
            exact ⟨rfl, Lib.hid (below_drewN (Below.refl _ _) nq)⟩
        case rest =>
          obtain ⟨rfl, hB5⟩ := hcut
          have BW := Lib.hid (next0 BW.out hB5.out)
          have HOW := Lib.hid (OwnG.ch (r := r) HOW.out (Ch.of hB5.out) hrB)
          have RD := Lib.hid (RD.out.below hB5.out)
          have hBs := Nat.le_trans hBs hB5.out.size
          clear x1 x2 x3 x4 f1 f2 f3 y1 y2 y3 y4 i1 i2 i3 i4 i5 hi1 hi0 hB5 HK HAT
          cases tl with
          | true =>
            have HO2 : Hid (O = .bad (hd ts).2.2 2) := Lib.hid (by rw [HO.out, HD2.out, if_pos HTL.out.symm]; rfl)
            have FL := Lib.hid (fail_ok wc r ts 0 2 RD.out)
            generalize (hd ts).2.2 = ta2 at *
            clear HTL HD2
            go_wp2_with fail
            refine FL.out.mono ?_
            rintro e w6 ⟨rfl, k1, k2⟩
            have B6 := Lib.hid (BW.out.trans (k2.toBelow (B := w.heap.size) (by omega) BW.out.size))
            obtain ⟨_, _, _, _, _, _, _, hlt, _, _, _, _, x3, x4, _⟩ := k1.open
            clear k1 k2 FL
            go_upto_region 8 with fail
            go_quiet (fail)
            go_wp2_with fail
            refine bodyPost_ret (v := .tuple #[.slice none 0 0, .int .i64 ta2, .int .i64 2]) (by simp [results, Tryd.results13, go_sem]) rfl (Or.inr ⟨ta2, 2, HO2.out, rfl, below_drewN B6.out nq⟩)
          | false =>
            have HOB : Hid (OB = (ruleF ts).then fun x r => descF (128 - M.length) (M.map (·.1) ++ [x]) r) := Lib.hid (by rw [HD2.out, if_neg (by rw [← HTL.out]; decide)])
            have HOK : Hid ((decide (M.length = 128) && atomB (hd ts)) = false) := Lib.hid HTL.out.symm
            have KT := Lib.hid (ur_ok RD.out)
            clear HTL HD2
            go_wp2_with fail
            refine KT.out.mono ?_
            rintro e w2' ⟨nm, p2, m2, c2, q2, n2, d2, rfl, hC2, hF2⟩
            have CC2 := Lib.hid hC2
            have FF2 := Lib.hid hF2
            have BW2 := Lib.hid (BW.out.trans (hC2.toBelow (by omega) BW.out.size))
            have hsz2 : B0 ≤ w2'.heap.size := Nat.le_trans hBs hC2.size
            have A3 : B0 ≤ (w2'.alloc (.cells #[.string nm, .slice p2 m2 c2, .slice q2 n2 d2] 34)).heap.size := by rw [World.size_alloc]; omega
            clear hC2 hF2 KT
            go_wp2_with (at_builtin; refine wpList_append_lies _ rfl _ _ 23 rfl B0 34 i0 (.agg #[.string ⟨#[]⟩, .slice none 0 0, .slice none 0 0]) 3 64 Tryd.underlying23 HI.out.1 HI.out.2.1 HI.out.2.2.1 HI.out.2.2.2 rfl (by decide) (.slice va M.length vc) M.length (KR.flat M) rfl ((HOW.out.ch CC2.out hrB).1.alloc _) ⟨w2'.heap.size, 0, none⟩ 1 1 [.string nm, .slice p2 m2 c2, .slice q2 n2 d2] rfl rfl (newsK _ _ _ _ _) (one_R _ _ _ _ _ _ _) (by decide) A1.out A2.out A3 (w2'.heap.size + 1) (by simp) ?_; intro g5 cap5 w4 hown hgrow hat hlt5)
            have hvb : ∀ k, (Value.slice va M.length vc).ownBlock = some k → B0 ≤ k ∧ k < (wc).heap.size := fun k hk => HOW.out.1.lt k hk
            have hRR : ∀ {tk : List GTok} {a e : Int}, RR w2' r tk a e → RR w4 r tk a e := fun {tk a e} h => RR.grown (RR.alloc h _) hgrow (fun k hk => by have := (hvb k hk).1; omega)
            have BW4 := Lib.hid ((BW2.out.alloc BW2.out.size (.cells #[.string nm, .slice p2 m2 c2, .slice q2 n2 d2] 34)).grown hgrow (by rw [World.size_alloc]; have := BW2.out.size; omega) (fun k hk => by have := (hvb k hk).1; have := hrw; omega))
            have hs4 := Lib.hid (Nat.le_trans A3 hgrow.size)
            have hgk : 1 ≤ gk := by have := HG.out.1; have := HG.out.2; omega
            rcases FF2.out with ⟨x6, tk6, hf6, e1, e2, e3, hs6, hR6⟩ | ⟨a6, er6, tk6, hf6, her6, hR6⟩
            · subst e1 e2 e3
              have hl7 := len7 hf6 HOK.out HG.out.2
              have FIN := Lib.hid (show LD r B0 w OB (gk - 1) (.slice (some ⟨g5, 0, none⟩) (M.length + 1) cap5) w4 from
                ⟨BW4.out, hs4.out, Or.inl ⟨M ++ [(x6, .slice p2 x6.1.args.length c2, .slice q2 x6.2.length d2)], tk6, by rw [List.length_append]; have := HG.out.1; simp; omega, by rw [List.length_append]; simp; omega, by
                  rw [HOB.out, hf6]
                  show descF (128 - M.length) (M.map (·.1) ++ [x6]) tk6 = _
                  rw [List.length_append, List.map_append]
                  simp only [List.length_cons, List.length_nil, List.map_cons, List.map_nil]
                  rw [show 129 - (M.length + (0 + 1)) = 128 - M.length by omega], (HOW.out.ch CC2.out hrB).add (x := (x6, Value.slice p2 x6.1.args.length c2, Value.slice q2 x6.2.length d2)) (lo := (wc).heap.size) hs6 hBs (fun k hk => (hvb k hk).2) hown hgrow hat, hRR hR6⟩⟩)
              clear hf6 hs6 hR6 hown hgrow hat hlt5 hvb hRR FF2 CC2 BW2 HOB
              go_wp2_with fail
              go_roundg (gk - 1)
              case rel => exact FIN
              case measure => omega
            · have FIN := Lib.hid (show LD r B0 w OB (gk - 1) (.slice (some ⟨g5, 0, none⟩) (M.length + 1) cap5) w4 from
                ⟨BW4.out, hs4.out, Or.inr ⟨tk6, a6, er6, by rw [HOB.out, hf6]; rfl, her6, hRR hR6⟩⟩)
              clear hf6 her6 hR6 hown hgrow hat hlt5 hvb hRR FF2 CC2 BW2 HOB
              go_wp2_with fail
              go_roundg (gk - 1)
              case rel => exact FIN
              case measure => omega
    · have HO3 : Hid (O = .bad a er) := Lib.hid (by rw [HO.out, hOB]; rfl)
      have hE : (er != 0) = true := by rw [bne_iff_ne]; exact her
      have hE2 : (er == 0) = false := by rw [beq_eq_false_iff_ne]; exact her
      obtain ⟨_, _, _, _, _, _, _, hlt, _, _, _, x2, x3, x4, _⟩ := hRD.open
      clear hOB her hRD
      go_upto_region 3 with fail
      go_quiet (fail)
      have B4 := Lib.hid (below_drewN BW.out nq)
      have y3 : (wr.drewN nq).cell? ⟨r, 2, none⟩ = _ := x3
      have y4 : (wr.drewN nq).cell? ⟨r, 3, none⟩ = _ := x4
      have hrl3 : r < (wr.drewN nq).heap.size := hlt
      generalize wr.drewN nq = w4 at *
      clear nq x2 x3 x4
      go_upto_region 8 with fail
      go_quiet (fail)
      go_wp2_with fail
      refine bodyPost_ret (v := .tuple #[.slice none 0 0, .int .i64 a, .int .i64 er]) (by simp [results, Tryd.results13, go_sem]) rfl (Or.inr ⟨a, er, HO3.out, rfl, below_drewN B4.out nq⟩)
end RefL
namespace ParL6
open Kit LexM TermM TermI TermU LexE LexF LexG LexP ParM ParA ParB ParC ParD ParK ParE ParF ParG ParH ParI ParW ParV ParX ParX2 ParX3 ParY ParN ParP ParQ ParAx RefL
def oX {α : Type} (d : α) : Out α → α
  | .good x _ => x
  | .bad _ _ => d
def oA {α : Type} : Out α → Int
  | .good _ _ => 0
  | .bad a _ => a
def oE {α : Type} : Out α → Int
  | .good _ _ => 0
  | .bad _ e => e
theorem wds_uni {w w' : World} {o : Out (List Rl)} {e : Ending} (h : WdsR w o e w') : ∃ p c, e = .returned (.tuple #[.slice p (oX [] o).length c, .int .i64 (oA o), .int .i64 (oE o)]) ∧ RIn (· < w'.heap.size) w' (oX [] o) (.slice p (oX [] o).length c) ∧ Below w.heap.size w w' := by
  rcases h with ⟨l, p, c, rfl, h2, h3, h4⟩ | ⟨a, er, rfl, h2, h3⟩
  · exact ⟨p, c, h2, h3.wide fun b hb => hb.2, h4⟩
  · exact ⟨none, 0, h2, ⟨[], rfl, RowG.nil _ _⟩, h3⟩
theorem upR {w w' : World} {l : List Rl} {v : Value} (h : RIn (· < w.heap.size) w l v) (k : Below w.heap.size w w') : RIn (· < w'.heap.size) w' l v :=
  (h.keep fun b o hb => k.cell (p := ⟨b, o, none⟩) hb).wide fun _ hb => Nat.lt_of_lt_of_le hb k.size
set_option maxRecDepth 100000 in
set_option maxHeartbeats 3200000 in
theorem parses (s : ByteArray) (w : World) (hw : Wd w) : Calls Tryd.prog 3 #[.string s] w fun e w' => e = .returned (.bool true) ∧ Below w.heap.size w w' := by
  have HA := Lib.hid awake_any
  rcases Nat.lt_or_ge 2000 s.size with hs | hs
  · have hs1 : (2000 : Int) < (s.size : Int) := by omega
    go_enter Tryd.func3, Tryd.ntmps3
    go_wp2_with fail
    refine (HA.out w hw).mono ?_
    rintro e w8 ⟨rfl, g8⟩
    have B8 := Lib.hid g8
    clear g8
    go_wp2_with fail
    go_ret
    exact ⟨rfl, B8.out⟩
  have K1 := Lib.hid ((parse_any s w hw (by omega)).mono fun e w' h => wds_uni h)
  have K2 := Lib.hid (fun w1 => (rparse_any s w1 (by omega)).mono fun e w' h => wds_uni h)
  generalize wholeF (descF 129 []) s.data.toList = O at *
  have TE := Lib.hid (fun B w v v' hB h1 h2 => rules_of (oX [] O) (oX [] O) true (by simp) B w v v' hB h1 h2)
  generalize oX [] O = l at *
  generalize oA O = a1 at *
  generalize oE O = e1 at *
  go_enter Tryd.func3, Tryd.ntmps3
  go_wp2_with fail
  refine K1.out.mono ?_
  rintro e w1 ⟨p1, c1, rfl, hS1, hB1⟩
  have B1 := Lib.hid hB1
  have S1 := Lib.hid hS1
  clear hB1 hS1 K1
  go_wp2_with fail
  refine (K2.out w1).mono ?_
  rintro e w2 ⟨p2, c2, rfl, hS2, hB2⟩
  have B2 := Lib.hid (next0 B1.out hB2)
  have TT := Lib.hid (TE.out w2.heap.size w2 _ _ (Nat.le_refl _) (upR S1.out hB2) hS2)
  clear hB2 hS2 K2 TE S1
  generalize l.length = nl at *
  go_wp2_with fail
  refine TT.out.mono ?_
  rintro e w5 ⟨rfl, g5⟩
  have B5 := Lib.hid (next0 B2.out g5.1)
  clear g5 TT
  go_wp2_with fail
  refine (HA.out w5 (hw.below B5.out hw.1)).mono ?_
  rintro e w8 ⟨rfl, g8⟩
  have B8 := Lib.hid (next0 B5.out g8)
  clear g8
  go_wp2_with fail
  go_ret
  exact ⟨rfl, B8.out⟩
end ParL6
end Go.Proofs.YtdalepdpobcpaaaDoor
