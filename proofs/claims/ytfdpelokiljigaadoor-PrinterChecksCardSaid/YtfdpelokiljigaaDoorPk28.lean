/- Texts laid together: ParAp; RefL; PriO; ParVd. Their own heads stand before each. -/
import Derived.Test.YtfdpelokiljigaaDoorPk12
import Derived.OwnWalk
import Derived.Laws.OwnMore
import Derived.Tactics
import Derived.Test.YtfdpelokiljigaaDoorPk25
import Derived.Test.YtfdpelokiljigaaDoorPk27
import Derived.Test.YtfdpelokiljigaaDoorPk18
import Derived.Deep.LoopGhost
import Derived.Test.YtfdpelokiljigaaDoorPk21
import Derived.Test.YtfdpelokiljigaaDoorPk11
import Derived.Test.YtfdpelokiljigaaDoorPk22
/- append of a row of structs onto a row of one's own: as a law for the walk, also behind a guard that holds. No conditions. -/
namespace Go.Proofs.YtfdpelokiljigaaDoor
open Go Go.RowKit
namespace ParAp
open Kit LexM TermM TermI TermU LexP ParM ParK
theorem wpList_held {P : Program} {w : World} {ops : Array Oper} {rest : List Oper} {o : Oper} {a : Act} {Q : Exit → Act → World → Prop} (hg : Region.wanted o (yielded ops a.tmps) = true)
    (h : ∀ K : Act → World → Prop, (∀ a w, wpList P ops Q rest a w → K a w) → o.wp P a w K Q) : wpList P ops Q (o :: rest) a w :=
  wpList_step fun K hK => by rw [if_pos hg]; exact h K hK
theorem run_append_none0 {P : Program} {w : World} (base : Nat) (t ty e : TypeId) (i : TypeInfo) (size : Nat) (ht : P.underlying t = some (.slice e)) (hi : P.info? e = some i)
    (v : Value) (n : Nat) (xs : List Value) (hown : w.ownsRow base e size v n xs) (c : Nat) :
    (Builtin.append_ #[t, t] ty #[v, .slice none 0 c]).run P w = .ok v w := by
  rcases hown.2 with ⟨rfl, rfl⟩ | ⟨g, cap, cur, rfl, _, _, hnc, _⟩
  · simp [Builtin.append_, run_underlying ht, sizeOf, typeInfo, hi, Builtin.lenOf, Builtin.firstCells]
  · simp [Builtin.append_, run_underlying ht, sizeOf, typeInfo, hi, Builtin.lenOf, Builtin.firstCells, hnc, storeCells]
section
variable {α : Type} {K : Kd α}
theorem flat_at : ∀ (L : List α) (j : Nat) (u : Value), (K.flat L)[j]? = some u → ∃ i x r, L[i]? = some x ∧ (K.cells x)[r]? = some u ∧ j = i * 3 + r
  | [], j, u, h => by simp [Kd.flat] at h
  | a :: L, j, u, h => by
    have hl := K.len a
    simp only [Kd.flat, List.flatMap_cons] at h
    rcases Nat.lt_or_ge j 3 with h3 | h3
    · rw [List.getElem?_append_left (by omega)] at h
      exact ⟨0, a, j, rfl, h, by omega⟩
    · rw [List.getElem?_append_right (by omega)] at h
      obtain ⟨i, x, r, h1, h2, h4⟩ := flat_at L (j - (K.cells a).length) u h
      exact ⟨i + 1, x, r, by simpa using h1, h2, by omega⟩
theorem wp_append_row {w : World} {o : Oper} {a : Act} {KK : Act → World → Prop} {Q : Exit → Act → World → Prop} (s x : Operand) (t : TypeId)
    (ho : o.op = .call { callee := .builtin .append, args := #[s, x], argTypes := #[t, t] })
    (base : Nat) (i : TypeInfo) (z : Value) (bytes : Nat) (ht : Tryd.prog.underlying t = some (.slice K.ty)) (hi : Tryd.prog.info? K.ty = some i) (hz : i.zero = some z)
    (hsize : i.size = 3) (hby : i.bytes = bytes) (hzs : z.cells.size = 3) (L : List α) (h1 : ∀ x ∈ L, ∀ u ∈ K.cells x, u.oneCell' = true)
    (v : Value) (n : Nat) (xs : List Value) (hs : a.eval s = v) (hown : w.ownsRow base K.ty 3 v n xs)
    (ok : Nat → Prop) (vx : Value) (hx : a.eval x = vx) (hR : RowG K ok w L vx)
    (h63 : n + L.length ≤ maxLen) (hbytes : (n + L.length) * bytes ≤ 140737488355328) (hbase : base ≤ w.heap.size)
    (h : ∀ v' w', w'.ownsRow base K.ty 3 v' (n + L.length) (xs ++ K.flat L) → w.grownBy w' v.ownBlock → KK (a.put o.dst v') w') : o.wp Tryd.prog a w KK Q := by
  obtain ⟨p, c, rfl, hc, hm, hin, hp⟩ := hR
  cases p with
  | none =>
    have hl : L = [] := by
      cases L with
      | nil => rfl
      | cons y L =>
        obtain ⟨g, o', e, _⟩ := hp (by simp)
        cases e
    subst hl
    have hrun := run_append_none0 (P := Tryd.prog) base t o.type K.ty i 3 ht hi v n xs hown c
    have hk := h v w (by simpa [Kd.flat] using hown) ⟨rfl, rfl, rfl, Nat.le_refl _, fun _ _ _ => rfl⟩
    unfold Oper.wp
    simp [execOp, ho, resolve, invoke, builtin, hs, hx, hrun, Result.andThen]
    exact hk
  | some ad =>
    refine wp_append_own w s x t ho base K.ty i z 3 bytes ht hi hz hsize hby hzs (by decide) v n xs hs hown ad L.length c (K.flat L) hx (flat_len L) ?_ ?_ h63 hbytes hbase fun v' w' h2 h3 _ => h v' w' h2 h3
    · intro j u hj
      obtain ⟨i', y, r, e1, e2, rfl⟩ := flat_at L j u hj
      obtain ⟨g, o', e, _, hcell⟩ := hp (by have := (List.getElem?_eq_some_iff.1 e1).1; omega)
      cases e
      rw [addr_add, ← Nat.add_assoc]
      exact hcell i' y e1 r u e2
    · intro u hu
      obtain ⟨y, hy, hyu⟩ := List.mem_flatMap.1 hu
      exact h1 y hy u hyu
theorem row_of_own {ok : Nat → Prop} {base : Nat} {w : World} {L : List α} {v : Value} (h : w.ownsRow base K.ty 3 v L.length (K.flat L)) (hi : ∀ x ∈ L, K.inn ok w x) (ho : ∀ g, v.ownBlock = some g → ok g) : RowG K ok w L v := by
  rcases h.2 with ⟨e, hz⟩ | ⟨g, cap, cur, e, e2, e3, e4, e5, _⟩
  · exact ⟨none, 0, by rw [e, hz], by omega, Nat.zero_le _, hi, fun h => by omega⟩
  · subst e
    refine ⟨_, cap, rfl, e4, e5, hi, fun _ => ⟨g, 0, rfl, ho g rfl, fun i x hx j u hu => ?_⟩⟩
    have hii := (List.getElem?_eq_some_iff.1 hx).1
    have hj := (List.getElem?_eq_some_iff.1 hu).1
    rw [K.len] at hj
    rw [show 0 + i * 3 + j = i * 3 + j by omega]
    exact (h.cellAt _ (by omega)).trans (flat_get L i x hx j u hu)
end
theorem one_KR (x : Rl × Value × Value) (h : (∃ p n c, x.2.1 = .slice p n c) ∧ ∃ p n c, x.2.2 = .slice p n c) : ∀ u ∈ KR.cells x, u.oneCell' = true := by
  obtain ⟨⟨p, n, c, e1⟩, q, m, d, e2⟩ := h
  intro u hu
  have hu' : u ∈ [Value.string x.1.1.nm, x.2.1, x.2.2] := hu
  simp at hu'
  rcases hu' with rfl | rfl | rfl
  · rfl
  · rw [e1]; rfl
  · rw [e2]; rfl
theorem one_row {ok : Nat → Prop} {w : World} {L : List (Rl × Value × Value)} {v : Value} (h : RowG KR ok w L v) : ∀ x ∈ L, ∀ u ∈ KR.cells x, u.oneCell' = true := fun x hx => by
  obtain ⟨_, _, _, _, _, hi, _⟩ := h
  obtain ⟨p, c, h1⟩ := (hi x hx).1.form
  obtain ⟨q, d, h2⟩ := (hi x hx).2.2.form
  exact one_KR x ⟨⟨p, _, c, h1⟩, q, _, d, h2⟩
end ParAp
end Go.Proofs.YtfdpelokiljigaaDoor
/- The reference's Parse, without the law's walk (for seats without gameplayerlaw05). Conditions: the text's length; for the law: the reserved words lie as laid. -/
namespace Go.Proofs.YtfdpelokiljigaaDoor
open Go Go.RowKit
namespace RefL
open Kit LexM TermM TermI TermU LexE LexF LexG LexP LexQ ParM ParA ParB ParC ParD ParK ParE ParG ParV ParN ParX ParX2 ParX3 RefA RefB RefC0 RefC RefD RefF RefJ0 RefJ RefG
/-- What a call that reads a rule answers, good or bad. -/
def UR (r : Nat) (w : World) (o : Out Rl) (e : Ending) (w2 : World) : Prop := ∃ nm p m c q n d, e = .returned (.agg #[.string nm, .slice p m c, .slice q n d]) ∧ Ch r w w2 ∧
  ((∃ x ts, o = .good x ts ∧ nm = x.1.nm ∧ m = x.1.args.length ∧ n = x.2.length ∧ KR.inn (fun b => w.heap.size ≤ b ∧ b < w2.heap.size) w2 (x, .slice p m c, .slice q n d) ∧ RR w2 r ts 0 0) ∨ (∃ a er ts, o = .bad a er ∧ er ≠ 0 ∧ RR w2 r ts a er))
theorem ur_ok {r : Nat} {w : World} {ts : List GTok} (h : RR w r ts 0 0) : Calls Tryd.prog 57 #[.pointer (some ⟨r, 0, none⟩)] w (UR r w (ruleF ts)) :=
  (rule_any r w ts h).mono fun e w2 h => by
    rcases h with ⟨x, ts, p, c, q, d, h1, h2, h3, h4, h5⟩ | ⟨a, er, nm, p, m, c, q, n, d, ts, h1, h2, h3, h4, h5⟩
    · exact ⟨_, _, _, _, _, _, _, h2, h5, Or.inl ⟨x, ts, h1, rfl, rfl, rfl, h3, h4⟩⟩
    · exact ⟨_, _, _, _, _, _, _, h2, h5, Or.inr ⟨a, er, ts, h1, h4, h3⟩⟩
/-- What holds at the head of the loop over rules. -/
def LD (r B0 : Nat) (w : World) (OB : Out (List Rl)) (gk : Nat) (v : Value) (wr : World) : Prop :=
  Below w.heap.size w wr ∧ B0 ≤ wr.heap.size ∧
  ((∃ (M : List (Rl × Value × Value)) (ts : List GTok), M.length + gk = 129 ∧ M.length ≤ 128 ∧ OB = descF (129 - M.length) (M.map (·.1)) ts ∧ OwnG KR B0 wr M v ∧ RR wr r ts 0 0) ∨
   (∃ ts a er, OB = .bad a er ∧ er ≠ 0 ∧ RR wr r ts a er))
theorem len7 {n : Nat} {ts r : List GTok} {x : Rl} (h : ruleF ts = .good x r) (h1 : (decide (n = 128) && atomB (hd ts)) = false) (h8 : n ≤ 128) : n ≤ 127 := by
  rcases Nat.lt_or_ge n 128 with hl | hl
  · omega
  · exfalso
    have hn : n = 128 := by omega
    rw [hn] at h1
    have hb : atomB (hd ts) = false := by simpa using h1
    obtain ⟨a, e, he⟩ := rule_bad hb
    rw [he] at h
    cases h
set_option maxRecDepth 100000 in
set_option maxHeartbeats 3200000 in
theorem rparse_any (s : ByteArray) (w : World) (hs : s.size ≤ 140737488355328) :
    Calls Tryd.prog 39 #[.string s] w (WdsR w (wholeF (descF 129 []) s.data.toList)) := by
  by_cases h0 : (lexR s.data.toList).2.2 = 0
  case neg =>
    have BE := Lib.hid (begin_err s w hs h0)
    have HO : Hid (wholeF (descF 129 []) s.data.toList = .bad (lexR s.data.toList).2.1 (lexR s.data.toList).2.2) := Lib.hid (by unfold wholeF; rw [if_neg h0])
    have hE : ((lexR s.data.toList).2.2 != 0) = true := by rw [bne_iff_ne]; exact h0
    have hE2 : ((lexR s.data.toList).2.2 == 0) = false := by rw [beq_eq_false_iff_ne]; exact h0
    clear h0
    generalize wholeF (descF 129 []) s.data.toList = O at *
    generalize (lexR s.data.toList).2.2 = er at *
    generalize (lexR s.data.toList).2.1 = at_ at *
    unfold WdsR
    go_enter Tryd.func39, Tryd.ntmps39
    go_wp2_with fail
    refine BE.out.mono ?_
    rintro e w2 ⟨r, rfl, hr, hH, hB⟩
    have HB := Lib.hid hB
    obtain ⟨x1, x2, x3, x4, f1, f2, f3, hrl⟩ := has4 hH
    clear hH hB BE
    go_wp2_with fail
    go_loopg [6] 0 (fun gk v wr => v = .slice none 0 0 ∧ wr = w2)
    case atStart => exact ⟨rfl, rfl⟩
    case round =>
      obtain ⟨rfl, rfl⟩ := hrel
      go_upto_region 3 with fail
      go_quiet (fail)
      have B4 := Lib.hid (below_drewN HB.out nq)
      have y3 : (wr.drewN nq).cell? ⟨r, 2, none⟩ = _ := x3
      have y4 : (wr.drewN nq).cell? ⟨r, 3, none⟩ = _ := x4
      have hrl3 : r < (wr.drewN nq).heap.size := hrl
      generalize wr.drewN nq = w4 at *
      clear nq x1 x2 x3 x4 f1 f2 f3 hrl
      go_upto_region 8 with fail
      go_quiet (fail)
      go_wp2_with fail
      refine bodyPost_ret (v := .tuple #[.slice none 0 0, .int .i64 at_, .int .i64 er]) (by simp [results, Tryd.results39, go_sem]) rfl (Or.inr ⟨at_, er, HO.out, rfl, below_drewN B4.out nq⟩)
  case pos =>
  have BO := Lib.hid (begin_ok s w hs h0)
  have HO : Hid (wholeF (descF 129 []) s.data.toList = (descF 129 [] ((lexR s.data.toList).1.map gt)).then fun x r => if (hd r).1 = 0 then .good x [] else .bad (hd r).2.2 1) := Lib.hid (by unfold wholeF; rw [if_pos h0])
  clear h0
  generalize wholeF (descF 129 []) s.data.toList = O at *
  generalize (lexR s.data.toList).1.map gt = T at *
  obtain ⟨OB, hOB⟩ : ∃ OB, OB = descF 129 [] T := ⟨_, rfl⟩
  have HOBs := Lib.hid hOB
  rw [← hOB] at HO
  clear hOB
  unfold WdsR
  go_enter Tryd.func39, Tryd.ntmps39
  go_wp2_with fail
  refine BO.out.mono ?_
  rintro e w3 ⟨r, rfl, hr, hR, hB⟩
  obtain ⟨B0, hB0⟩ : ∃ B0, B0 = w3.heap.size := ⟨_, rfl⟩
  have ST := Lib.hid (show LD r B0 w OB 129 (.slice none 0 0) w3 from ⟨hB, Nat.le_of_eq hB0, Or.inl ⟨[], T, rfl, by simp, HOBs.out, OwnG.nil _ _, hR⟩⟩)
  have hrB : r < B0 := by rw [hB0]; exact hR.lt
  have hrw := hr
  clear hR hB BO hB0 HOBs
  obtain ⟨i0, hi, hz0, hz1, hz2⟩ := info_parts Tryd.infoR
  have HI := Lib.hid (And.intro hi (And.intro hz0 (And.intro hz1 hz2)))
  clear hi hz0 hz1 hz2
  go_wp2_with fail
  go_loopg [6] 129 (fun gk v wr => Hid (LD r B0 w OB gk v wr))
  case atStart => exact ST
  case round =>
    clear ST
    obtain ⟨hBw, hBs, hrr⟩ := hrel.out
    have BW := Lib.hid hBw
    clear hBw hrel
    rcases hrr with ⟨M, ts, hMG, hM8, hOB, hOw, hRD⟩ | ⟨ts, a, er, hOB, her, hRD⟩
    · obtain ⟨va, vc, hv⟩ := hOw.form
      subst hv
      have HG := Lib.hid (And.intro hMG hM8)
      have A1 : Hid (M.length + 1 ≤ maxLen) := Lib.hid (by unfold maxLen; omega)
      have A2 : Hid ((M.length + 1) * 64 ≤ 140737488355328) := Lib.hid (by omega)
      have RD := Lib.hid hRD
      have HOW := Lib.hid hOw
      obtain ⟨n9, hn9⟩ : ∃ n9, 129 - M.length = n9 + 1 := ⟨128 - M.length, by omega⟩
      have hOB2 : OB = if (hd ts).1 = 0 then .good (M.map (·.1)) ts else if (decide (M.length = 128) && atomB (hd ts)) = true then .bad (hd ts).2.2 2 else (ruleF ts).then fun x r => descF (128 - M.length) (M.map (·.1) ++ [x]) r := by
        rw [hOB, hn9, descF, List.length_map, show n9 = 128 - M.length by omega]
      have HD := Lib.hid hOB2
      obtain ⟨g, o, c, n, i, i1, i2, i3, i4, i5, x1, x2, x3, x4, f1, f2, f3, y1, y2, y3, y4⟩ := hRD.open
      have hi1 : (i : Int) < (n : Int) := by omega
      have hi0 : 0 ≤ (i : Int) := by omega
      obtain ⟨k, hk⟩ : ∃ k, (hd ts).1 = k := ⟨_, rfl⟩
      have HK := Lib.hid hk
      rw [hk] at y1
      clear hMG hM8 hOB hOw hRD hk hOB2 hn9
      by_cases hk0 : k = 0
      · have HO2 : Hid (O = .good (M.map (·.1)) []) := Lib.hid (by
          have e1 : OB = .good (M.map (·.1)) ts := by rw [HD.out, if_pos (HK.out.trans hk0)]
          rw [HO.out, e1]
          show (if (hd ts).1 = 0 then Out.good (M.map (·.1)) [] else _) = _
          rw [if_pos (HK.out.trans hk0)])
        subst hk0
        clear HD HK
        go_upto_region 3 with fail
        go_quiet (fail)
        have B4 := Lib.hid (below_drewN BW.out nq)
        have z4 : (wr.drewN nq).cell? ⟨r, 3, none⟩ = _ := x4
        have S4 := Lib.hid ((OwnG.ch (r := r) HOW.out (Ch.of (below_drewN (Below.refl _ wr) nq)) hrB).row)
        have hML : Hid ((M.map (·.1)).length = M.length) := Lib.hid (by simp)
        have hw0 : w.heap.size ≤ B0 := by omega
        generalize wr.drewN nq = w5 at *
        clear x1 x2 x3 x4 f1 f2 f3 y1 y2 y3 y4 i1 i2 i3 i4 i5 hi1 hi0 nq
        go_wp2_with fail
        refine bodyPost_ret (v := .tuple #[.slice va M.length vc, .int .i64 0, .int .i64 0]) (by simp [results, Tryd.results39, go_sem]) rfl (Or.inl ⟨M.map (·.1), va, vc, HO2.out, by rw [hML.out], ⟨M, rfl, ?_⟩, B4.out⟩)
        rw [hML.out]
        exact S4.out.wide fun b hb => ⟨Nat.le_trans hw0 hb.1, hb.2⟩
      · have hkn : (k != 0) = true := by rw [bne_iff_ne]; exact hk0
        have HD2 : Hid (OB = if (decide (M.length = 128) && atomB (hd ts)) = true then .bad (hd ts).2.2 2 else (ruleF ts).then fun x r => descF (128 - M.length) (M.map (·.1) ++ [x]) r) := Lib.hid (by rw [HD.out, if_neg (by rw [HK.out]; exact hk0)])
        clear hk0 HD
        obtain ⟨tl, htl⟩ : ∃ tl, tl = (decide (M.length = 128) && atomB (hd ts)) := ⟨_, rfl⟩
        have HTL := Lib.hid htl
        have HAT : Hid (atomB (hd ts) = (k == 1)) := Lib.hid (by unfold atomB; rw [HK.out])
        clear htl
        go_upto_region 3 with fail
        go_quiet (fail)
        have BW := Lib.hid (below_drewN BW.out nq)
        have hD : Below wr.heap.size wr (wr.drewN nq) := below_drewN (Below.refl _ wr) nq
        have RD := Lib.hid (RD.out.below hD)
        have HOW := Lib.hid (OwnG.ch (r := r) HOW.out (Ch.of hD) hrB)
        have hBs := Nat.le_trans hBs hD.size
        clear x1 x2 x3 x4 f1 f2 f3 y1 y2 y3 y4 i1 i2 i3 i4 i5 hi1 hi0 hD
        generalize wr.drewN nq = w5 at *
        clear nq
        obtain ⟨g, o, c, n, i, i1, i2, i3, i4, i5, x1, x2, x3, x4, f1, f2, f3, y1, y2, y3, y4⟩ := RD.out.open
        have hi1 : (i : Int) < (n : Int) := by omega
        have hi0 : 0 ≤ (i : Int) := by omega
        rw [HK.out] at y1
        go_upto_region 4 with fail
        go_cut [44] (fun s44 wx => s44 = .bool tl ∧ Hid (Below w5.heap.size w5 wx))
        case first =>
          by_cases h8 : M.length = 128
          · have e8 : ((M.length : Int) == 128) = true := by rw [h8]; rfl
            have e8' : (M.length == 128) = true := by rw [h8]; rfl
            have H8 := Lib.hid h8
            clear h8
            have HTL2 : Hid (tl = (k == 1)) := Lib.hid (by have := HTL.out; rw [H8.out, HAT.out] at this; simpa using this)
            clear HTL HAT HD2
            obtain ⟨kb, hkb⟩ : ∃ kb, (k == 1) = kb := ⟨_, rfl⟩
            obtain rfl : tl = kb := HTL2.out.trans hkb
            cases tl
            all_goals
              go_quiet (fail)
              go_wp2_with fail
              go_meet
              exact ⟨rfl, Lib.hid (below_drewN (Below.refl _ _) nq)⟩
          · have e8 : ((M.length : Int) == 128) = false := by rw [beq_eq_false_iff_ne]; omega
            have e8' : (M.length == 128) = false := by rw [beq_eq_false_iff_ne]; exact h8
            obtain rfl : tl = false := by have := HTL.out; simp [h8] at this; exact this
            have H8 := Lib.hid h8
            clear h8 HTL HD2
            go_quiet (fail)
            go_wp2_with fail
            go_meet
            exact ⟨rfl, Lib.hid (below_drewN (Below.refl _ _) nq)⟩
        case rest =>
          obtain ⟨rfl, hB5⟩ := hcut
          have BW := Lib.hid (next0 BW.out hB5.out)
          have HOW := Lib.hid (OwnG.ch (r := r) HOW.out (Ch.of hB5.out) hrB)
          have RD := Lib.hid (RD.out.below hB5.out)
          have hBs := Nat.le_trans hBs hB5.out.size
          clear x1 x2 x3 x4 f1 f2 f3 y1 y2 y3 y4 i1 i2 i3 i4 i5 hi1 hi0 hB5 HK HAT
          cases tl with
          | true =>
            have HO2 : Hid (O = .bad (hd ts).2.2 2) := Lib.hid (by rw [HO.out, HD2.out, if_pos HTL.out.symm]; rfl)
            have FL := Lib.hid (fail_ok wc r ts 0 2 RD.out)
            generalize (hd ts).2.2 = ta2 at *
            clear HTL HD2
            go_wp2_with fail
            refine FL.out.mono ?_
            rintro e w6 ⟨rfl, k1, k2⟩
            have B6 := Lib.hid (BW.out.trans (k2.toBelow (B := w.heap.size) (by omega) BW.out.size))
            obtain ⟨_, _, _, _, _, _, _, hlt, _, _, _, _, x3, x4, _⟩ := k1.open
            clear k1 k2 FL
            go_upto_region 8 with fail
            go_quiet (fail)
            go_wp2_with fail
            refine bodyPost_ret (v := .tuple #[.slice none 0 0, .int .i64 ta2, .int .i64 2]) (by simp [results, Tryd.results39, go_sem]) rfl (Or.inr ⟨ta2, 2, HO2.out, rfl, below_drewN B6.out nq⟩)
          | false =>
            have HOB : Hid (OB = (ruleF ts).then fun x r => descF (128 - M.length) (M.map (·.1) ++ [x]) r) := Lib.hid (by rw [HD2.out, if_neg (by rw [← HTL.out]; decide)])
            have HOK : Hid ((decide (M.length = 128) && atomB (hd ts)) = false) := Lib.hid HTL.out.symm
            have KT := Lib.hid (ur_ok RD.out)
            clear HTL HD2
            go_wp2_with fail
            refine KT.out.mono ?_
            rintro e w2' ⟨nm, p2, m2, c2, q2, n2, d2, rfl, hC2, hF2⟩
            have CC2 := Lib.hid hC2
            have FF2 := Lib.hid hF2
            have BW2 := Lib.hid (BW.out.trans (hC2.toBelow (by omega) BW.out.size))
            have hsz2 : B0 ≤ w2'.heap.size := Nat.le_trans hBs hC2.size
            have A3 : B0 ≤ (w2'.alloc (.cells #[.string nm, .slice p2 m2 c2, .slice q2 n2 d2] 27)).heap.size := by rw [World.size_alloc]; omega
            clear hC2 hF2 KT
            go_wp2_with (at_builtin; refine wpList_append_lies _ rfl _ _ 37 rfl B0 27 i0 (.agg #[.string ⟨#[]⟩, .slice none 0 0, .slice none 0 0]) 3 64 Tryd.underlying37 HI.out.1 HI.out.2.1 HI.out.2.2.1 HI.out.2.2.2 rfl (by decide) (.slice va M.length vc) M.length (KR.flat M) rfl ((HOW.out.ch CC2.out hrB).1.alloc _) ⟨w2'.heap.size, 0, none⟩ 1 1 [.string nm, .slice p2 m2 c2, .slice q2 n2 d2] rfl rfl (newsK _ _ _ _ _) (one_R _ _ _ _ _ _ _) (by decide) A1.out A2.out A3 (w2'.heap.size + 1) (by simp) ?_; intro g5 cap5 w4 hown hgrow hat hlt5)
            have hvb : ∀ k, (Value.slice va M.length vc).ownBlock = some k → B0 ≤ k ∧ k < (wc).heap.size := fun k hk => HOW.out.1.lt k hk
            have hRR : ∀ {tk : List GTok} {a e : Int}, RR w2' r tk a e → RR w4 r tk a e := fun {tk a e} h => RR.grown (RR.alloc h _) hgrow (fun k hk => by have := (hvb k hk).1; omega)
            have BW4 := Lib.hid ((BW2.out.alloc BW2.out.size (.cells #[.string nm, .slice p2 m2 c2, .slice q2 n2 d2] 27)).grown hgrow (by rw [World.size_alloc]; have := BW2.out.size; omega) (fun k hk => by have := (hvb k hk).1; have := hrw; omega))
            have hs4 := Lib.hid (Nat.le_trans A3 hgrow.size)
            have hgk : 1 ≤ gk := by have := HG.out.1; have := HG.out.2; omega
            rcases FF2.out with ⟨x6, tk6, hf6, e1, e2, e3, hs6, hR6⟩ | ⟨a6, er6, tk6, hf6, her6, hR6⟩
            · subst e1 e2 e3
              have hl7 := len7 hf6 HOK.out HG.out.2
              have FIN := Lib.hid (show LD r B0 w OB (gk - 1) (.slice (some ⟨g5, 0, none⟩) (M.length + 1) cap5) w4 from
                ⟨BW4.out, hs4.out, Or.inl ⟨M ++ [(x6, .slice p2 x6.1.args.length c2, .slice q2 x6.2.length d2)], tk6, by rw [List.length_append]; have := HG.out.1; simp; omega, by rw [List.length_append]; simp; omega, by
                  rw [HOB.out, hf6]
                  show descF (128 - M.length) (M.map (·.1) ++ [x6]) tk6 = _
                  rw [List.length_append, List.map_append]
                  simp only [List.length_cons, List.length_nil, List.map_cons, List.map_nil]
                  rw [show 129 - (M.length + (0 + 1)) = 128 - M.length by omega], (HOW.out.ch CC2.out hrB).add (x := (x6, Value.slice p2 x6.1.args.length c2, Value.slice q2 x6.2.length d2)) (lo := (wc).heap.size) hs6 hBs (fun k hk => (hvb k hk).2) hown hgrow hat, hRR hR6⟩⟩)
              clear hf6 hs6 hR6 hown hgrow hat hlt5 hvb hRR FF2 CC2 BW2 HOB
              go_wp2_with fail
              go_roundg (gk - 1)
              case rel => exact FIN
              case measure => omega
            · have FIN := Lib.hid (show LD r B0 w OB (gk - 1) (.slice (some ⟨g5, 0, none⟩) (M.length + 1) cap5) w4 from
                ⟨BW4.out, hs4.out, Or.inr ⟨tk6, a6, er6, by rw [HOB.out, hf6]; rfl, her6, hRR hR6⟩⟩)
              clear hf6 her6 hR6 hown hgrow hat hlt5 hvb hRR FF2 CC2 BW2 HOB
              go_wp2_with fail
              go_roundg (gk - 1)
              case rel => exact FIN
              case measure => omega
    · have HO3 : Hid (O = .bad a er) := Lib.hid (by rw [HO.out, hOB]; rfl)
      have hE : (er != 0) = true := by rw [bne_iff_ne]; exact her
      have hE2 : (er == 0) = false := by rw [beq_eq_false_iff_ne]; exact her
      obtain ⟨_, _, _, _, _, _, _, hlt, _, _, _, x2, x3, x4, _⟩ := hRD.open
      clear hOB her hRD
      go_upto_region 3 with fail
      go_quiet (fail)
      have B4 := Lib.hid (below_drewN BW.out nq)
      have y3 : (wr.drewN nq).cell? ⟨r, 2, none⟩ = _ := x3
      have y4 : (wr.drewN nq).cell? ⟨r, 3, none⟩ = _ := x4
      have hrl3 : r < (wr.drewN nq).heap.size := hlt
      generalize wr.drewN nq = w4 at *
      clear nq x2 x3 x4
      go_upto_region 8 with fail
      go_quiet (fail)
      go_wp2_with fail
      refine bodyPost_ret (v := .tuple #[.slice none 0 0, .int .i64 a, .int .i64 er]) (by simp [results, Tryd.results39, go_sem]) rfl (Or.inr ⟨a, er, HO3.out, rfl, below_drewN B4.out nq⟩)
end RefL
end Go.Proofs.YtfdpelokiljigaaDoor
/- The reference's Format. Condition: at most 2^47 bytes. -/
namespace Go.Proofs.YtfdpelokiljigaaDoor
open Go Go.RowKit
namespace PriO
open LexM TermM TermI Kit TermU ParM ParK ParV PriM PriK PriL PriN
set_option maxRecDepth 100000 in
set_option maxHeartbeats 3200000 in
theorem rformat_any (s : ByteArray) (w : World) (hs : s.size ≤ 140737488355328) :
    Calls Tryd.prog 25 #[.string s] w (FmR w (wholeF (descF 129 []) s.data.toList)) := by
  have H := Lib.hid (RefL.rparse_any s w hs)
  have NZ := Lib.hid (fun a e (h : wholeF (descF 129 []) s.data.toList = .bad a e) => ParN.nz_whole (descF 129 []) (fun ts => ParN.nz_desc 129 [] ts rfl (by omega)) s.data.toList a e h)
  have RU := Lib.hid (fun (l : List Rl) (w2 : World) (hb : Below w.heap.size w w2) (v : Value) (h : RIn (fun b => w.heap.size ≤ b ∧ b < w2.heap.size) w2 l v) => rrules_any l w2.heap.size w2 v (Nat.le_refl _) (h.wide (fun b hb => hb.2)))
  generalize wholeF (descF 129 []) s.data.toList = O at *
  unfold ParX2.WdsR at H
  unfold FmR
  go_enter Tryd.func25, Tryd.ntmps25
  go_wp2_with fail
  refine H.out.mono ?_
  rintro e w2 (⟨l, p, c, hO, rfl, hR, hb⟩ | ⟨a, er, hO, rfl, hb⟩)
  · have K := Lib.hid (RU.out l w2 hb _ hR)
    have HO := Lib.hid hO
    have HBB := Lib.hid hb
    clear RU NZ hO hR hb H
    generalize l.length = n at *
    go_wp2_with fail
    refine K.out.mono ?_
    rintro e w3 ⟨rfl, k⟩
    have D3 := Lib.hid (HBB.out.trans (k.1.mono HBB.out.size))
    clear k
    go_wp2_with fail
    go_ret3
    exact Or.inl ⟨l, HO.out, rfl, D3.out⟩
  · have hne := NZ.out a er hO
    have HO := Lib.hid hO
    have HBB := Lib.hid hb
    clear RU NZ hO hb H
    have h0 : ¬ er = 0 := by omega
    have hb0 : (er != 0) = true := by simpa using h0
    go_wp2_with fail
    go_ret3
    exact Or.inr ⟨a, er, HO.out, rfl, HBB.out⟩
end PriO
end Go.Proofs.YtfdpelokiljigaaDoor
/- What the plain parser returns is valid: names, depths, numbers of arguments, literals. No conditions. -/
namespace Go.Proofs.YtfdpelokiljigaaDoor
open Go Go.RowKit
namespace ParVd
open Kit LexM TermM LexE LexF LexG LexP LexQ ParM ParV ParN ParLn
def Tk1 (t : GTok) : Prop := (t.1 = 1 → nameB t.2.1 = true) ∧ (t.1 = 2 → numB t.2.1 = true) ∧ (t.1 = 3 → varB t.2.1 = true)
def TkOk (ts : List GTok) : Prop := ∀ t ∈ ts, Tk1 t
theorem TkOk.hd {ts : List GTok} (h : TkOk ts) : Tk1 (hd ts) := by
  cases ts with
  | nil => exact ⟨fun e => absurd e (by decide), fun e => absurd e (by decide), fun e => absurd e (by decide)⟩
  | cons a r => exact h a (by simp)
theorem TkOk.drop {ts : List GTok} (h : TkOk ts) (n : Nat) : TkOk (ts.drop n) := fun t ht => h t (List.mem_of_mem_drop ht)
theorem TkOk.tail {ts : List GTok} (h : TkOk ts) : TkOk ts.tail := fun t ht => h t (List.mem_of_mem_tail ht)
theorem loc_tk {α : Type} {f : List GTok → Out α} (hf : Loc1 f) {ts : List GTok} {x : α} {r : List GTok} (h : f ts = .good x r) (hk : TkOk ts) : TkOk r := by
  obtain ⟨n, rfl, _⟩ := hf ts x r h
  exact hk.drop n
theorem good_kind {k : Int} {x : List UInt8} (h : LexQ.Good k x) : k = 4 ∨ k = kindL x := by
  obtain ⟨h0, hne, hp⟩ := h
  have h1 := hp [] rfl
  rw [List.append_nil] at h1
  cases x with
  | nil => exact absurd rfl hne
  | cons b l =>
    rw [piece_cons] at h1
    split at h1
    · exact absurd (congrArg Prod.fst h1).symm h0
    · split at h1
      · exact absurd (congrArg Prod.fst h1).symm h0
      · split at h1
        · exact Or.inl (congrArg Prod.fst h1).symm
        · split at h1
          · have h2 := congrArg Prod.fst h1
            have h3 := congrArg (fun p : Int × Nat × Int => p.2.1) h1
            dsimp only at h2 h3
            rw [h3, List.take_length] at h2
            exact Or.inr h2.symm
          · exact absurd (congrArg Prod.fst h1).symm h0
theorem kind_1 {x : List UInt8} (h : kindL x = 1) : nameL x = true := by
  unfold kindL at h
  split at h
  · cases h
  · split at h
    · assumption
    · split at h
      · cases h
      · split at h <;> cases h
theorem kind_2 {x : List UInt8} (h : kindL x = 2) : isNum x = true := by
  unfold kindL at h
  split at h
  · cases h
  · split at h
    · cases h
    · split at h
      · assumption
      · split at h <;> cases h
theorem kind_3 {x : List UInt8} (h : kindL x = 3) : varL x = true := by
  unfold kindL at h
  split at h
  · cases h
  · split at h
    · cases h
    · split at h
      · cases h
      · split at h
        · assumption
        · cases h
theorem bs_toL (l : List UInt8) : (bs l).data.toList = l := by simp [bs]
theorem lex_tk {l : List UInt8} (h : (lexR l).2.2 = 0) : TkOk ((lexR l).1.map gt) := by
  unfold lexR at h ⊢
  split at h
  · cases h
  · rename_i c
    rw [if_neg c]
    obtain ⟨xs, e, g, _⟩ := lexF_good _ _ _ h
    rw [e]
    intro t ht
    obtain ⟨u, hu, rfl⟩ := List.mem_map.1 ht
    rcases List.mem_append.1 hu with hu | hu
    · have hg := good_kind (g u hu)
      show Tk1 (u.1, bs u.2.1, (u.2.2 : Int))
      refine ⟨fun e => ?_, fun e => ?_, fun e => ?_⟩
      · have e : u.1 = 1 := e
        show nameL (bs u.2.1).data.toList = true
        rw [bs_toL]
        rcases hg with hg | hg
        · omega
        · exact kind_1 (hg.symm.trans e)
      · have e : u.1 = 2 := e
        show isNum (bs u.2.1).data.toList = true
        rw [bs_toL]
        rcases hg with hg | hg
        · omega
        · exact kind_2 (hg.symm.trans e)
      · have e : u.1 = 3 := e
        show varL (bs u.2.1).data.toList = true
        rw [bs_toL]
        rcases hg with hg | hg
        · omega
        · exact kind_3 (hg.symm.trans e)
    · obtain rfl := List.mem_singleton.1 hu
      exact ⟨fun e => absurd e (by show ¬ (0 : Int) = 1; decide), fun e => absurd e (by show ¬ (0 : Int) = 2; decide), fun e => absurd e (by show ¬ (0 : Int) = 3; decide)⟩
theorem more_ok (f : List GTok → Out Tm) (P : Tm → Prop) (hl1 : Loc1 f) (hf : ∀ ts x r, f ts = .good x r → TkOk ts → P x) (hb : ∀ ts, begB (hd ts) = false → ∃ a e, f ts = .bad a e) :
    ∀ (n : Nat) (l : List Tm) (ts : List GTok) (l' : List Tm) (r : List GTok), l.length ≤ 4 → 1 ≤ l.length → (∀ x ∈ l, P x) → moreF f n l ts = .good l' r → TkOk ts → (l'.length ≤ 4 ∧ 1 ≤ l'.length) ∧ ∀ x ∈ l', P x
  | 0, _, _, _, _, _, _, _, h, _ => by cases h
  | n + 1, l, ts, l', r, h4, hp1, hp, h, hk => by
    rw [moreF] at h
    split at h
    · split at h
      · cases h
      · rename_i c2
        cases hx : f ts.tail with
        | bad a e => rw [hx] at h; cases h
        | good x r1 =>
          rw [hx] at h
          have h' : moreF f n (l ++ [x]) r1 = .good l' r := h
          refine more_ok f P hl1 hf hb n (l ++ [x]) r1 l' r ?_ (by simp) (fun y hy => ?_) h' (loc_tk hl1 hx hk.tail)
          · rcases Nat.lt_or_ge l.length 4 with h5 | h5
            · simp; omega
            · exfalso
              have h6 : l.length = 4 := by omega
              have hbg : begB (hd ts.tail) = false := by
                cases hc : begB (hd ts.tail) with
                | false => rfl
                | true => exact absurd (by simp [h6, hc]) c2
              obtain ⟨a, e, he⟩ := hb _ hbg
              rw [he] at hx
              cases hx
          · rcases List.mem_append.1 hy with hy | hy
            · exact hp y hy
            · obtain rfl := List.mem_singleton.1 hy
              exact hf _ _ _ hx hk.tail
    · split at h
      · cases h
        exact ⟨⟨h4, hp1⟩, hp⟩
      · cases h
theorem term_ok : ∀ (d : Nat) (ts : List GTok) (x : Tm) (r : List GTok), termF d ts = .good x r → TkOk ts → validT false d x = true ∧ ((hd ts).1 = 1 → nameB x.nm = true)
  | 0, ts, x, r, h, _ => by
    rw [termF] at h
    split at h <;> cases h
  | d + 1, ts, x, r, h, hk => by
    rw [termF] at h
    obtain ⟨k1, k2, k3⟩ := hk.hd
    split at h
    · cases h
    · rename_i c1
      split at h
      · rename_i c2
        cases ha : argsF (termF d) ts.tail with
        | bad a e => rw [ha] at h; cases h
        | good l r1 =>
          rw [ha] at h
          cases h
          refine ⟨?_, fun _ => k1 c2⟩
          unfold argsF at ha
          split at ha
          · cases ht : termF d ts.tail.tail with
            | bad a e => rw [ht] at ha; cases ha
            | good t r2 =>
              rw [ht] at ha
              have ha' : moreF (termF d) 4 [t] r2 = .good l r := ha
              obtain ⟨⟨g1, g2⟩, g3⟩ := more_ok (termF d) (fun x => validT false d x = true) (loc_term d) (fun ts x r h hk => (term_ok d ts x r h hk).1) (term_bad d) 4 [t] r2 l r (by simp) (by simp)
                (fun y hy => by obtain rfl := List.mem_singleton.1 hy; exact (term_ok d _ _ _ ht hk.tail.tail).1) ha' (loc_tk (loc_term d) ht hk.tail.tail)
              have hne : l.isEmpty = false := by cases l with
                | nil => simp at g2
                | cons _ _ => rfl
              rw [validT, hne]
              simp only [Bool.false_eq_true, if_false, Bool.and_eq_true, decide_eq_true_iff, List.all_eq_true]
              exact ⟨⟨g1, k1 c2⟩, g3⟩
          · cases ha
            rw [validT]
            simp only [List.isEmpty_nil, if_true]
            unfold conB
            rw [k1 c2]
            simp
      · rename_i c2
        cases h
        refine ⟨?_, fun e => absurd e c2⟩
        rw [validT]
        simp only [List.isEmpty_nil, if_true]
        unfold conB
        have hbg : begB (hd ts) = true := by
          cases hc : begB (hd ts) with
          | true => rfl
          | false => exact absurd hc c1
        unfold begB at hbg
        simp only [Bool.or_eq_true, beq_iff_eq] at hbg
        rcases hbg with e | e | e
        · exact absurd e c2
        · rw [k2 e]; simp
        · rw [k3 e]; simp
def AtOk (t : Tm) : Prop := validT false 4 t = true ∧ nameB t.nm = true
theorem atom_ok {ts : List GTok} {x : Tm} {r : List GTok} (h : atomF ts = .good x r) (hk : TkOk ts) : AtOk x := by
  unfold atomF at h
  split at h
  · rename_i c
    obtain ⟨h1, h2⟩ := term_ok 4 ts x r h hk
    exact ⟨h1, h2 (by unfold atomB at c; simpa using c)⟩
  · cases h
theorem lit_ok {ts : List GTok} {x : Lt} {r : List GTok} (h : litF ts = .good x r) (hk : TkOk ts) : AtOk x.2 := by
  unfold litF at h
  split at h
  · cases ha : atomF ts.tail with
    | bad a e => rw [ha] at h; cases h
    | good t r1 => rw [ha] at h; cases h; exact atom_ok ha hk.tail
  · cases ha : atomF ts with
    | bad a e => rw [ha] at h; cases h
    | good t r1 => rw [ha] at h; cases h; exact atom_ok ha hk
theorem lits_ok : ∀ (n : Nat) (l : List Lt) (ts : List GTok) (l' : List Lt) (r : List GTok), l.length ≤ 8 → (∀ x ∈ l, AtOk x.2) → litsF n l ts = .good l' r → TkOk ts → l'.length ≤ 8 ∧ ∀ x ∈ l', AtOk x.2
  | 0, _, _, _, _, _, _, h, _ => by cases h
  | n + 1, l, ts, l', r, h8, hp, h, hk => by
    rw [litsF] at h
    split at h
    · split at h
      · cases h
      · rename_i c2
        cases hx : litF ts.tail with
        | bad a e => rw [hx] at h; cases h
        | good x r1 =>
          rw [hx] at h
          have h' : litsF n (l ++ [x]) r1 = .good l' r := h
          refine lits_ok n (l ++ [x]) r1 l' r ?_ (fun y hy => ?_) h' (loc_tk loc_lit hx hk.tail)
          · rcases Nat.lt_or_ge l.length 8 with h5 | h5
            · simp; omega
            · exfalso
              have h6 : l.length = 8 := by omega
              have hbg : (atomB (hd ts.tail) || isB (hd ts.tail) sNot) = false := by
                cases hc : (atomB (hd ts.tail) || isB (hd ts.tail) sNot) with
                | false => rfl
                | true => exact absurd (by simp only [h6, hc]; decide) c2
              obtain ⟨h1, h2⟩ := Bool.or_eq_false_iff.1 hbg
              obtain ⟨a, e, he⟩ := atom_bad h1
              unfold litF at hx
              rw [if_neg (by rw [h2]; decide), he] at hx
              cases hx
          · rcases List.mem_append.1 hy with hy | hy
            · exact hp y hy
            · obtain rfl := List.mem_singleton.1 hy
              exact lit_ok hx hk.tail
    · cases h
      exact ⟨h8, hp⟩
def RlOk (x : Rl) : Prop := AtOk x.1 ∧ x.2.length ≤ 8 ∧ ∀ b ∈ x.2, AtOk b.2
theorem rule_ok {ts : List GTok} {x : Rl} {r : List GTok} (h : ruleF ts = .good x r) (hk : TkOk ts) : RlOk x := by
  unfold ruleF at h
  cases ha : atomF ts with
  | bad a e => rw [ha] at h; cases h
  | good t r1 =>
    rw [ha] at h
    have k1 := loc_tk loc_atom ha hk
    change (if isB (hd r1) sIf = true then _ else _) = _ at h
    split at h
    · cases hb : bodyF r1.tail with
      | bad a e => rw [hb] at h; cases h
      | good b r2 =>
        rw [hb] at h
        change (expF sDot r2).then _ = _ at h
        cases he : expF sDot r2 with
        | bad a e => rw [he] at h; cases h
        | good _ r3 =>
          rw [he] at h
          cases h
          unfold bodyF at hb
          cases hl : litF r1.tail with
          | bad a e => rw [hl] at hb; cases hb
          | good y r4 =>
            rw [hl] at hb
            have hb' : litsF 8 [y] r4 = .good b r2 := hb
            obtain ⟨g1, g2⟩ := lits_ok 8 [y] r4 b r2 (by simp) (fun z hz => by obtain rfl := List.mem_singleton.1 hz; exact lit_ok hl k1.tail) hb' (loc_tk loc_lit hl k1.tail)
            exact ⟨atom_ok ha hk, g1, g2⟩
    · cases he : expF sDot r1 with
      | bad a e => rw [he] at h; cases h
      | good _ r3 =>
        rw [he] at h
        cases h
        exact ⟨atom_ok ha hk, by simp, fun b hb => by simp at hb⟩
theorem desc_ok : ∀ (n : Nat) (l : List Rl) (ts : List GTok) (l' : List Rl) (r : List GTok), (∀ x ∈ l, RlOk x) → descF n l ts = .good l' r → TkOk ts → ∀ x ∈ l', RlOk x
  | 0, _, _, _, _, _, h, _ => by cases h
  | n + 1, l, ts, l', r, hp, h, hk => by
    rw [descF] at h
    split at h
    · cases h; exact hp
    · split at h
      · cases h
      · cases hx : ruleF ts with
        | bad a e => rw [hx] at h; cases h
        | good x r1 =>
          rw [hx] at h
          have h' : descF n (l ++ [x]) r1 = .good l' r := h
          refine desc_ok n (l ++ [x]) r1 l' r (fun y hy => ?_) h' (loc_tk loc_rule.one hx hk)
          rcases List.mem_append.1 hy with hy | hy
          · exact hp y hy
          · obtain rfl := List.mem_singleton.1 hy
            exact rule_ok hx hk
/-- WHAT Parse RETURNS IS VALID. -/
theorem parse_ok {s : List UInt8} {l : List Rl} {r : List GTok} (h : wholeF (descF 129 []) s = .good l r) : ∀ x ∈ l, RlOk x := by
  obtain ⟨h0, r', h1, _⟩ := whole_good h
  exact desc_ok 129 [] _ l r' (fun x hx => by simp at hx) h1 (lex_tk h0)
end ParVd
end Go.Proofs.YtfdpelokiljigaaDoor
