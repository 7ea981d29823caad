/- Texts laid together: PriT; LexY; TermJ; PriZ; PriS. Their own heads stand before each. -/
import Derived.Test.YtfdpelokiljigaaDoorPk19
import Derived.Test.YtfdpelokiljigaaDoorPk28
import Derived.Test.YtfdpelokiljigaaDoorPk29
import Derived.Test.YtfdpelokiljigaaDoorPk12
import Derived.Test.YtfdpelokiljigaaDoorPk2
import Derived.Deep.DeepHandedRow
import Derived.Lib.LaidTab
import Derived.LaidSub
import Derived.OpenShut
import Derived.Deep.RegionHeld
import Derived.Test.YtfdpelokiljigaaDoorPk7
import Derived.Test.YtfdpelokiljigaaDoorPk13
/- The walks of PrinterFormats and PrinterTwice. Conditions: the reserved words and the three signs lie as laid. -/
namespace Go.Proofs.YtfdpelokiljigaaDoor
open Go Go.RowKit
namespace PriT
open Kit LexM TermM TermI TermU LexP ParM ParK ParV ParP ParQ PriM PriC PriD PriK PriN PriR PriAx
/-- What Format answers. -/
def fmF (o : Out (List Rl)) : List UInt8 × Int × Int :=
  match o with
  | .good l _ => ((rulesF l).1, 0, (rulesF l).2)
  | .bad a e => ([], a, e)
theorem fm_of {w w' : World} {e : Ending} {o : Out (List Rl)} (h : FmR w o e w') : e = .returned (.tuple #[.string (bs (fmF o).1), .int .i64 (fmF o).2.1, .int .i64 (fmF o).2.2]) ∧ Below w.heap.size w w' := by
  rcases h with ⟨l, rfl, rfl, hb⟩ | ⟨a, er, rfl, rfl, hb⟩ <;> exact ⟨rfl, hb⟩
theorem fmt_any (s : ByteArray) (w : World) (hw : LexE.Wd w) (hw2 : TermT.Wd w) (hs : s.size ≤ 140737488355328) :
    Calls Tryd.prog 24 #[.string s] w fun e w' => e = .returned (.tuple #[.string (bs (fmF (wholeF (descF 129 []) s.data.toList)).1), .int .i64 (fmF (wholeF (descF 129 []) s.data.toList)).2.1, .int .i64 (fmF (wholeF (descF 129 []) s.data.toList)).2.2]) ∧ Below w.heap.size w w' :=
  (format_any s w hw hw2 hs).mono fun _ _ h => fm_of h
theorem rfmt_any (s : ByteArray) (w : World) (hs : s.size ≤ 140737488355328) :
    Calls Tryd.prog 25 #[.string s] w fun e w' => e = .returned (.tuple #[.string (bs (fmF (wholeF (descF 129 []) s.data.toList)).1), .int .i64 (fmF (wholeF (descF 129 []) s.data.toList)).2.1, .int .i64 (fmF (wholeF (descF 129 []) s.data.toList)).2.2]) ∧ Below w.heap.size w w' :=
  (PriO.rformat_any s w hs).mono fun _ _ h => fm_of h
theorem rules_ok {l : List Rl} (h : (rulesF l).2 = 0) : (rulesF l).1 = descX l ∧ (∀ r ∈ l, vlB r = true) ∧ l.length ≤ 128 ∧ (descX l).length ≤ 16384 := by
  unfold rulesF at h ⊢
  by_cases h1 : 128 < l.length
  · rw [if_pos h1] at h; exact absurd h (by decide)
  · rw [if_neg h1] at h ⊢
    by_cases h2 : l.all vlB = false
    · rw [if_pos h2] at h; exact absurd h (by decide)
    · rw [if_neg h2] at h ⊢
      by_cases h3 : 16384 < (descX l).length
      · rw [if_pos h3] at h; exact absurd h (by decide)
      · rw [if_neg h3]
        have h4 : l.all vlB = true := by simpa using h2
        rw [List.all_eq_true] at h4
        exact ⟨rfl, h4, by omega, by omega⟩
theorem rules_no {l : List Rl} (h : (rulesF l).2 ≠ 0) : (rulesF l).1 = [] := by
  unfold rulesF at h ⊢
  by_cases h1 : 128 < l.length
  · rw [if_pos h1]
  · rw [if_neg h1] at h ⊢
    by_cases h2 : l.all vlB = false
    · rw [if_pos h2]
    · rw [if_neg h2] at h ⊢
      by_cases h3 : 16384 < (descX l).length
      · rw [if_pos h3]
      · rw [if_neg h3] at h; exact absurd rfl h
theorem rules_as {l : List Rl} (h1 : ∀ r ∈ l, vlB r = true) (h2 : l.length ≤ 128) (h3 : (descX l).length ≤ 16384) : rulesF l = (descX l, 0) := by
  unfold rulesF
  rw [if_neg (by omega), if_neg (by rw [List.all_eq_true.2 h1]; decide), if_neg (by omega)]
/-- What Parse leaves where it succeeds. -/
def PG (w : World) (l : List Rl) (e : Ending) (w' : World) : Prop := ∃ p c, e = .returned (.tuple #[.slice p l.length c, .int .i64 0, .int .i64 0]) ∧ RIn (· < w'.heap.size) w' l (.slice p l.length c) ∧ Below w.heap.size w w'
theorem parse_good (s : ByteArray) (l : List Rl) (w : World) (hw : LexE.Wd w) (hs : s.size ≤ 140737488355328) (h : wholeF (descF 129 []) s.data.toList = .good l []) :
    Calls Tryd.prog 26 #[.string s] w (PG w l) := by
  refine (ParY.parse_any s w hw hs).mono ?_
  rintro e w' (⟨l', p, c, hO, rfl, hR, hb⟩ | ⟨a, er, hO, rfl, hb⟩)
  · have hO := h.symm.trans hO
    injection hO with hO _
    subst hO
    exact ⟨p, c, rfl, hR.wide fun b hb => hb.2, hb⟩
  · have hO := h.symm.trans hO
    cases hO
/-- A printed description, read again. -/
theorem again {l : List Rl} (h1 : ∀ r ∈ l, vlB r = true) (h2 : l.length ≤ 128) (h3 : (descX l).length ≤ 16384) :
    wholeF (descF 129 []) (bs (descX l)).data.toList = .good l [] ∧ fmF (wholeF (descF 129 []) (bs (descX l)).data.toList) = (descX l, 0, 0) ∧ (bs (descX l)).size ≤ 16384 := by
  have h4 := desc_back l h1 h2 h3
  rw [bs_list]
  refine ⟨h4, ?_, by rw [bs_size]; exact h3⟩
  rw [h4]
  show ((rulesF l).1, (0 : Int), (rulesF l).2) = _
  rw [rules_as h1 h2 h3]
theorem fm_zero {o : Out (List Rl)} (hn : ∀ a e, o = .bad a e → 1 ≤ e) (h : (fmF o).2.2 = 0) : ∃ l r, o = .good l r ∧ (rulesF l).2 = 0 := by
  cases o with
  | good l r => exact ⟨l, r, rfl, h⟩
  | bad a e =>
    have := hn a e rfl
    have h : e = 0 := h
    omega
theorem fm_no {o : Out (List Rl)} (h : (fmF o).2.2 ≠ 0) : (fmF o).1 = [] := by
  cases o with
  | good l r => exact rules_no h
  | bad a e => rfl
theorem whole_nil {α : Type} {f : List GTok → Out α} {l : List UInt8} {x : α} {r : List GTok} (h : wholeF f l = .good x r) : r = [] := by
  unfold wholeF at h
  split at h
  · cases hf : f ((LexG.lexR l).1.map gt) with
    | bad a e => rw [hf] at h; cases h
    | good y r2 =>
      rw [hf] at h
      change (if (hd r2).1 = 0 then Out.good y [] else _) = _ at h
      split at h
      · injection h with _ h; exact h.symm
      · cases h
  · cases h
set_option maxRecDepth 100000 in
set_option maxHeartbeats 1600000 in
theorem formats (s : ByteArray) (w : World) (hw : LexE.Wd w) (hw2 : TermT.Wd w) : Calls Tryd.prog 6 #[.string s] w fun e w' => e = .returned (.bool true) ∧ Below w.heap.size w w' := by
  have HA := Lib.hid awake_any
  have HW := Lib.hid hw
  have HW2 := Lib.hid hw2
  clear hw hw2
  by_cases hs : 2000 < s.size
  · have hs1 : (2000 : Int) < (s.size : Int) := by omega
    go_enter Tryd.func6, Tryd.ntmps6
    go_wp2_with fail
    refine (HA.out w HW.out HW2.out).mono ?_
    rintro e w8 ⟨rfl, g8⟩
    have B8 := Lib.hid g8
    clear g8
    go_wp2_with fail
    go_ret
    exact ⟨rfl, B8.out⟩
  · have hs1 : ¬ (2000 : Int) < (s.size : Int) := by omega
    have C1 := Lib.hid (fmt_any s w HW.out HW2.out (by omega))
    have C2 := Lib.hid (fun w1 => rfmt_any s w1 (by omega))
    generalize bs (fmF (wholeF (descF 129 []) s.data.toList)).1 = S at *
    generalize (fmF (wholeF (descF 129 []) s.data.toList)).2.1 = a at *
    generalize (fmF (wholeF (descF 129 []) s.data.toList)).2.2 = er at *
    go_enter Tryd.func6, Tryd.ntmps6
    go_wp2_with fail
    refine C1.out.mono ?_
    rintro e w1 ⟨rfl, k⟩
    have B1 := Lib.hid k
    clear k C1
    go_wp2_with fail
    refine (C2.out w1).mono ?_
    rintro e w2 ⟨rfl, k⟩
    have B2 := Lib.hid (next0 B1.out k)
    clear k C2 B1
    go_wp2_with fail
    refine (HA.out w2 (HW.out.below B2.out HW.out.1) (HW2.out.below B2.out HW2.out.1)).mono ?_
    rintro e w3 ⟨rfl, k⟩
    have B3 := Lib.hid (next0 B2.out k)
    clear k
    go_wp2_with fail
    go_ret
    exact ⟨rfl, B3.out⟩
set_option maxRecDepth 100000 in
set_option maxHeartbeats 1600000 in
theorem twice (s : ByteArray) (w : World) (hw : LexE.Wd w) (hw2 : TermT.Wd w) : Calls Tryd.prog 9 #[.string s] w fun e w' => e = .returned (.bool true) ∧ Below w.heap.size w w' := by
  have HA := Lib.hid awake_any
  have HW := Lib.hid hw
  have HW2 := Lib.hid hw2
  clear hw hw2
  by_cases hs : 2000 < s.size
  · have hs1 : (2000 : Int) < (s.size : Int) := by omega
    go_enter Tryd.func9, Tryd.ntmps9
    go_wp2_with fail
    refine (HA.out w HW.out HW2.out).mono ?_
    rintro e w8 ⟨rfl, g8⟩
    have B8 := Lib.hid g8
    clear g8
    go_wp2_with fail
    go_ret
    exact ⟨rfl, B8.out⟩
  · have hs1 : ¬ (2000 : Int) < (s.size : Int) := by omega
    have C1 := Lib.hid (fmt_any s w HW.out HW2.out (by omega))
    by_cases hE : (fmF (wholeF (descF 129 []) s.data.toList)).2.2 = 0
    case neg =>
      have e1 := fm_no hE
      rw [e1, bs_nil] at C1
      have hE1 : ((fmF (wholeF (descF 129 []) s.data.toList)).2.2 != 0) = true := by rw [bne_iff_ne]; exact hE
      clear e1 hE
      generalize (fmF (wholeF (descF 129 []) s.data.toList)).2.1 = a at *
      generalize (fmF (wholeF (descF 129 []) s.data.toList)).2.2 = er at *
      go_enter Tryd.func9, Tryd.ntmps9
      go_wp2_with fail
      refine C1.out.mono ?_
      rintro e w1 ⟨rfl, k⟩
      have B1 := Lib.hid k
      clear k C1
      go_wp2_with fail
      refine (HA.out w1 (HW.out.below B1.out HW.out.1) (HW2.out.below B1.out HW2.out.1)).mono ?_
      rintro e w3 ⟨rfl, k⟩
      have B3 := Lib.hid (next0 B1.out k)
      clear k
      go_wp2_with fail
      go_ret
      exact ⟨rfl, B3.out⟩
    case pos =>
      obtain ⟨l, r, hO, hR0⟩ := fm_zero (fun a e h => (ParN.nz_whole (descF 129 []) (fun ts => ParN.nz_desc 129 [] ts rfl (by omega)) s.data.toList a e h).1) hE
      obtain rfl := whole_nil hO
      obtain ⟨r1, r2, r3, r4⟩ := rules_ok hR0
      obtain ⟨a1, a2, a3⟩ := again r2 r3 r4
      have e0 : fmF (wholeF (descF 129 []) s.data.toList) = (descX l, 0, 0) := by
        rw [hO]
        show ((rulesF l).1, (0 : Int), (rulesF l).2) = _
        rw [r1, hR0]
      rw [e0] at C1
      dsimp only at C1
      have C3 := Lib.hid (fun w1 h1 h2 => by have := fmt_any (bs (descX l)) w1 h1 h2 (by omega); rw [a2] at this; exact this)
      have P1 := Lib.hid (fun w1 h1 => parse_good s l w1 h1 (by omega) hO)
      have P2 := Lib.hid (fun w1 h1 => parse_good (bs (descX l)) l w1 h1 (by omega) a1)
      have RR := Lib.hid (fun (w1 : World) v v' (h : RIn (· < w1.heap.size) w1 l v) (h' : RIn (· < w1.heap.size) w1 l v') => rules_of l l true (by simp) w1.heap.size w1 v v' (Nat.le_refl _) h h')
      dsimp only at C3
      clear a1 a2 a3 e0 r1 r2 r3 r4 hO hR0 hE
      generalize bs (descX l) = S at *
      unfold PG at P1 P2
      generalize hn : l.length = n at *
      clear hn
      go_enter Tryd.func9, Tryd.ntmps9
      go_wp2_with fail
      refine C1.out.mono ?_
      rintro e w1 ⟨rfl, k⟩
      have B1 := Lib.hid k
      clear k C1
      go_wp2_with fail
      refine (C3.out w1 (HW.out.below B1.out HW.out.1) (HW2.out.below B1.out HW2.out.1)).mono ?_
      rintro e w2 ⟨rfl, k⟩
      have B2 := Lib.hid (next0 B1.out k)
      clear k C3 B1
      go_wp2_with fail
      refine (P1.out w2 (HW.out.below B2.out HW.out.1)).mono ?_
      rintro e w3 ⟨p3, c3, rfl, hR3, k⟩
      have B3 := Lib.hid (next0 B2.out k)
      have R3 := Lib.hid hR3
      clear k P1 B2 hR3
      go_wp2_with fail
      refine (P2.out w3 (HW.out.below B3.out HW.out.1)).mono ?_
      rintro e w4 ⟨p4, c4, rfl, hR4, k⟩
      have B4 := Lib.hid (next0 B3.out k)
      have R3' := (R3.out.keep (w' := w4) (fun b o hb => k.cell (p := ⟨b, o, none⟩) hb)).wide (ok' := (· < w4.heap.size)) (fun b hb => Nat.lt_of_lt_of_le hb k.size)
      have R5 := Lib.hid (RR.out w4 _ _ R3' hR4)
      clear k P2 B3 hR4 R3 R3' RR
      go_wp2_with fail
      refine R5.out.mono ?_
      rintro e w5 ⟨rfl, g5⟩
      have B5 := Lib.hid (next0 B4.out g5.1)
      clear g5 B4 R5
      go_wp2_with fail
      refine (HA.out w5 (HW.out.below B5.out HW.out.1) (HW2.out.below B5.out HW2.out.1)).mono ?_
      rintro e w6 ⟨rfl, k⟩
      have B6 := Lib.hid (next0 B5.out k)
      clear k
      go_wp2_with fail
      go_ret
      exact ⟨rfl, B6.out⟩
end PriT
end Go.Proofs.YtfdpelokiljigaaDoor
/- The listed variable of layer 4's rows (the reserved words): a world that holds it, and what a row's list gives a walk. No conditions. -/
namespace Go.Proofs.YtfdpelokiljigaaDoor
open Go Go.RowKit Go.ChangeShapes Go.WideShapes Go.ChangeAt
namespace LexY
open LexE
abbrev list : List (String × DataW Unit) := [("gameplayer/lexer.words", Rows.laid_gameplayer_lexer_words)]
noncomputable def lay1 (w : World) (g : Nat) (cs : Array Value) : World :=
  { w with heap := w.heap.modify g fun
      | .cells _ t frozen => .cells cs t frozen
      | o => o }
noncomputable def laidWorld (os : Os) : World :=
  lay1 (World.holding Tryd.prog os ⟨#[], #[], []⟩) 2 #[.string ⟨#[105, 102]⟩, .string ⟨#[97, 110, 100]⟩, .string ⟨#[110, 111, 116]⟩]
theorem laid_met_gen (os : Os) (args : Array Value) : laidMet Tryd.prog list ((laidWorld os).forCall (fun _ _ => 0) ⟨#[], args, []⟩).memory :=
  laidMet_of_run' 8 (by kernel_rfl) (by kernel_rfl)
theorem strs {H : Type} {enc : TypeId × Value → H} {P : Program} {w : World} {base : Nat} {sp : Nat → Bool} {held : Bool} {fuel : Nat} {t e : TypeId} {n : Nat} {cs : List Value} {ls : List (List UInt8)} {p : List MemPlace}
    (ht : P.underlying t = some (.array n e)) (he : P.underlying e = some .string) (hce : P.cellsOf e = 1) (hct : P.cellsOf t = n)
    (h : DataW.trod enc P w base sp held fuel t cs = some (.agg (ls.map fun l => .lit (.string l)), p)) : cs = ls.map fun l => Value.string ⟨l.toArray⟩ := by
  obtain ⟨xs, m, _, hx, hlen, hxl, hall⟩ := DataW.trod_array ht h
  have hxs : xs.map (·.1) = ls.map fun l => (DataW.lit (.string l) : DataW H) := by
    have := congrArg Prod.fst hx
    simpa using this.symm
  have hll : ls.length = n := by
    have := congrArg List.length hxs
    simp at this
    omega
  apply List.ext_getElem?
  intro i
  by_cases hi : i < n
  · obtain ⟨b, hb⟩ : ∃ b, xs[i]? = some b := ⟨xs[i]'(by omega), by simp⟩
    have hf := hall i hi
    rw [hb, hce, Nat.mul_one] at hf
    obtain ⟨s, hc, rfl, _⟩ := DataW.trod_string he hf
    have h1 : cs[i]? = some (.string s) := by
      have := congrArg (·[0]?) hc
      simpa [List.getElem?_take, List.getElem?_drop] using this
    have h2 : (xs.map (·.1))[i]? = some (DataW.lit (.string s.data.toList) : DataW H) := by simp [hb]
    rw [hxs] at h2
    simp only [List.getElem?_map, Option.map_eq_some_iff, DataW.lit.injEq, Lit.string.injEq] at h2
    obtain ⟨l, hl, hls⟩ := h2
    rw [h1, List.getElem?_map, hl, hls]
    simp
  · rw [List.getElem?_eq_none (by omega), List.getElem?_eq_none (by simp; omega)]
theorem gWords : Tryd.prog.globalNamed "gameplayer/lexer.words" = some 2 := by kernel_rfl
theorem words_gen {W : World} (h : laidMetH Tryd.prog list W) : Wd W := by
  have h1 : laidMet Tryd.prog list W := h
  obtain ⟨ps, ⟨g', t', cs, fuel, p, q, hg', ht', hvar, hd, _, _⟩, _⟩ := h1
  obtain rfl := Option.some.inj (gWords.symm.trans hg')
  obtain rfl := Option.some.inj ((show (Tryd.prog.globals[2]?).map (·.type) = some 118 by kernel_rfl).symm.trans ht')
  have hc := strs (ls := [[105, 102], [97, 110, 100], [110, 111, 116]]) Tryd.underlying118 Tryd.underlying9 (by kernel_rfl) (by kernel_rfl) hd
  have c0 := World.var?_cell gWords hvar 0
  have c1 := World.var?_cell gWords hvar 1
  have c2 := World.var?_cell gWords hvar 2
  have e : cs = #[.string ⟨#[105, 102]⟩, .string ⟨#[97, 110, 100]⟩, .string ⟨#[110, 111, 116]⟩] := Array.ext' hc
  rw [e] at c0 c1 c2
  exact ⟨World.block_lt_of_cell? W _ c0, c0, c1, c2⟩
end LexY
end Go.Proofs.YtfdpelokiljigaaDoor
/- The listed variable of layer 1's rows (the bytes that end names): a world that holds it, and what a row's list gives a walk. No conditions. -/
namespace Go.Proofs.YtfdpelokiljigaaDoor
open Go Go.RowKit Go.ChangeShapes Go.WideShapes Go.ChangeAt
namespace TermJ
open TermT
abbrev list : List (String × DataW Unit) := [("gameplayer/term.nameEnds", Rows.laid_gameplayer_term_nameEnds)]
noncomputable def lay1 (w : World) (g : Nat) (cs : Array Value) : World :=
  { w with heap := w.heap.modify g fun
      | .cells _ t frozen => .cells cs t frozen
      | o => o }
noncomputable def laidWorld (os : Os) : World :=
  lay1 (World.holding Tryd.prog os ⟨#[], #[], []⟩) 0 #[.int .u8 40, .int .u8 44, .int .u8 41]
theorem laid_met_gen (os : Os) (args : Array Value) : laidMet Tryd.prog list ((laidWorld os).forCall (fun _ _ => 0) ⟨#[], args, []⟩).memory :=
  laidMet_of_run' 8 (by kernel_rfl) (by kernel_rfl)
theorem ints {H : Type} {enc : TypeId × Value → H} {P : Program} {w : World} {base : Nat} {sp : Nat → Bool} {held : Bool} {fuel : Nat} {t e : TypeId} {n : Nat} {cs : List Value} {ls : List Int} {p : List MemPlace}
    (ht : P.underlying t = some (.array n e)) (he : P.underlying e = some (.int .u8)) (hce : P.cellsOf e = 1) (hct : P.cellsOf t = n)
    (h : DataW.trod enc P w base sp held fuel t cs = some (.agg (ls.map fun l => .lit (.int .u8 l)), p)) : cs = ls.map fun l => Value.int .u8 l := by
  obtain ⟨xs, m, _, hx, hlen, hxl, hall⟩ := DataW.trod_array ht h
  have hxs : xs.map (·.1) = ls.map fun l => (DataW.lit (.int .u8 l) : DataW H) := by
    have := congrArg Prod.fst hx
    simpa using this.symm
  have hll : ls.length = n := by
    have := congrArg List.length hxs
    simp at this
    omega
  apply List.ext_getElem?
  intro i
  by_cases hi : i < n
  · obtain ⟨b, hb⟩ : ∃ b, xs[i]? = some b := ⟨xs[i]'(by omega), by simp⟩
    have hf := hall i hi
    rw [hb, hce, Nat.mul_one] at hf
    obtain ⟨s, hc, rfl, _⟩ := DataW.trod_int he hf
    have h1 : cs[i]? = some (.int .u8 s) := by
      have := congrArg (·[0]?) hc
      simpa [List.getElem?_take, List.getElem?_drop] using this
    have h2 : (xs.map (·.1))[i]? = some (DataW.lit (.int .u8 s) : DataW H) := by simp [hb]
    rw [hxs] at h2
    simp only [List.getElem?_map, Option.map_eq_some_iff, DataW.lit.injEq, Lit.int.injEq] at h2
    obtain ⟨l, hl, _, hls⟩ := h2
    rw [h1, List.getElem?_map, hl, hls]
    rfl
  · rw [List.getElem?_eq_none (by omega), List.getElem?_eq_none (by simp; omega)]
theorem gEnds : Tryd.prog.globalNamed "gameplayer/term.nameEnds" = some 0 := by kernel_rfl
theorem ends_gen {W : World} (h : laidMetH Tryd.prog list W) : Wd W := by
  have h1 : laidMet Tryd.prog list W := h
  obtain ⟨ps, ⟨g', t', cs, fuel, p, q, hg', ht', hvar, hd, _, _⟩, _⟩ := h1
  obtain rfl := Option.some.inj (gEnds.symm.trans hg')
  obtain rfl := Option.some.inj ((show (Tryd.prog.globals[0]?).map (·.type) = some 91 by kernel_rfl).symm.trans ht')
  have hc := ints (ls := [40, 44, 41]) Tryd.underlying91 Tryd.underlying5 (by kernel_rfl) (by kernel_rfl) hd
  have c0 := World.var?_cell gEnds hvar 0
  have c1 := World.var?_cell gEnds hvar 1
  have c2 := World.var?_cell gEnds hvar 2
  have e : cs = #[.int .u8 40, .int .u8 44, .int .u8 41] := Array.ext' hc
  rw [e] at c0 c1 c2
  exact ⟨World.block_lt_of_cell? W _ c0, c0, c1, c2⟩
end TermJ
end Go.Proofs.YtfdpelokiljigaaDoor
/- The two listed variables of the printer's rows (the bytes that end names, the reserved words): a world that holds both, and what a row's list gives a walk. No conditions. -/
namespace Go.Proofs.YtfdpelokiljigaaDoor
open Go Go.RowKit Go.ChangeShapes Go.WideShapes Go.ChangeAt
namespace PriZ
abbrev list : List (String × DataW Unit) := [("gameplayer/term.nameEnds", Rows.laid_gameplayer_term_nameEnds), ("gameplayer/lexer.words", Rows.laid_gameplayer_lexer_words)]
noncomputable def laidWorld (os : Os) : World :=
  LexY.lay1 (LexY.lay1 (World.holding Tryd.prog os ⟨#[], #[], []⟩) 0 #[.int .u8 40, .int .u8 44, .int .u8 41]) 2 #[.string ⟨#[105, 102]⟩, .string ⟨#[97, 110, 100]⟩, .string ⟨#[110, 111, 116]⟩]
theorem laid_met_gen (os : Os) (args : Array Value) : laidMet Tryd.prog list ((laidWorld os).forCall (fun _ _ => 0) ⟨#[], args, []⟩).memory :=
  laidMet_of_run' 8 (by kernel_rfl) (by kernel_rfl)
theorem words_gen {W : World} (h : laidMetH Tryd.prog list W) : LexE.Wd W := by
  have h1 : laidMet Tryd.prog list W := h
  have h2 := laidMet.filter (fun x => x.1 == "gameplayer/lexer.words") h1
  have h3 : laidMet Tryd.prog LexY.list W := h2
  exact LexY.words_gen h3
theorem ends_gen {W : World} (h : laidMetH Tryd.prog list W) : TermT.Wd W := by
  have h1 : laidMet Tryd.prog list W := h
  have h2 := laidMet.filter (fun x => x.1 == "gameplayer/term.nameEnds") h1
  have h3 : laidMet Tryd.prog TermJ.list W := h2
  exact TermJ.ends_gen h3
end PriZ
end Go.Proofs.YtfdpelokiljigaaDoor
/- Small terms at the bound 100, and few. Conditions: none. -/
namespace Go.Proofs.YtfdpelokiljigaaDoor
open Go Go.RowKit
namespace PriS
open LexM TermM TermI Kit TermN TermS ParM ParK ParP PriM PriA PriD PriK PriR
set_option maxRecDepth 100000 in
set_option maxHeartbeats 1600000 in
theorem parts_any (D : Nat) : ∀ (t : Tm) (B : Nat) (w : World) (sv : Value), D ≤ 100 → B ≤ w.heap.size → SlIn (· < B) w t.args sv →
    Calls Tryd.prog 45 #[.agg #[.string t.nm, sv], .int .i64 100, .int .i64 D] w fun e w' => e = .returned (.int .i64 (partsT 100 D t)) ∧ Gr w w' := by
  induction D with
  | zero =>
    intro t B w sv hD hB h
    obtain ⟨p, c, rfl, hn, hc, hm, hR⟩ := h.row
    clear hR h
    go_enter Tryd.func45, Tryd.ntmps45
    go_wp2_with fail
    go_ret
    exact ⟨rfl, Gr.alloc _ _⟩
  | succ D ih =>
    rintro ⟨n, l⟩ B w sv hD hB h
    dsimp only [Tm.args, Tm.nm] at h ⊢
    obtain ⟨p, c, rfl, hn, hc, hm, hR⟩ := h.row
    obtain ⟨E, hE⟩ : ∃ E : Int, E = ((D + 1 : Nat) : Int) := ⟨_, rfl⟩
    rw [← hE]
    have hE1 : 1 ≤ E := by omega
    have hE2 : E ≤ 100 := by omega
    have hE3 : (D : Int) = E - 1 := by omega
    have IH : Hid (∀ (t : Tm) (w : World) (v : Value), B ≤ w.heap.size → SlIn (· < B) w t.args v → Calls Tryd.prog 45 #[.agg #[.string t.nm, v], .int .i64 100, .int .i64 (E - 1)] w fun e w' => e = .returned (.int .i64 (partsT 100 D t)) ∧ Gr w w') :=
      Lib.hid (fun t w v hB h => by rw [← hE3]; exact ih t B w v (by omega) hB h)
    clear hE3 hE
    have NX := Lib.hid (upN_next 100 D l)
    have ST := Lib.hid (upN_stuck 100 D l)
    have PB : Hid (∀ t, partsT 100 D t ≤ 20000) := Lib.hid (fun t => by
      have h1 := parts_le 100 D t
      have h2 : (D + 1) * (100 + 1) ≤ 101 * 102 := Nat.le_trans (Nat.mul_le_mul_right 101 (show _ ≤ 102 by omega)) (by decide)
      omega)
    have UB : Hid (∀ k, upN 100 D (l.take k) ≤ 20000) := Lib.hid (fun k => by
      have h1 : upN 100 D (l.take k) = partsT 100 (D + 1) (.mk n (l.take k)) := by simp only [partsT]; rfl
      have h2 := parts_le 100 (D + 1) (.mk n (l.take k))
      have h3 : (D + 1 + 1) * (100 + 1) ≤ 101 * 102 := Nat.le_trans (Nat.mul_le_mul_right 101 (show _ ≤ 102 by omega)) (by decide)
      omega)
    have FL : Hid (upN 100 D (l.take l.length) = upN 100 D l) := Lib.hid (by simp)
    have RT : Hid (partsT 100 (D + 1) (.mk n l) = upN 100 D l) := Lib.hid (by simp only [partsT]; rfl)
    have U0 : Hid (upN 100 D (l.take 0) = 1) := Lib.hid (by simp [upN])
    have HB := Lib.hid hB
    have HR := Lib.hid hR
    generalize partsT 100 (D + 1) (.mk n l) = R at *
    generalize hm' : l.length = m at *
    have HM := Lib.hid hm'
    clear ih hR h hm' hn
    unfold maxLen at hm
    go_enter Tryd.func45, Tryd.ntmps45
    go_wp2_with fail
    go_loopw [7, 16] (fun d i wr => ∃ k : Nat, k ≤ m ∧ i = .int .i64 k ∧ d = .int .i64 (upN 100 D (l.take k)) ∧ Hid (Gr (w.alloc (.cells #[.string n, .slice p m c] 24)) wr)) (fun _ i _ => m - (intOf i).toNat)
    case atStart => exact ⟨0, Nat.zero_le _, rfl, by rw [U0.out]; rfl, Lib.hid (Gr.refl _)⟩
    case round =>
      obtain ⟨k, hk, rfl, rfl, hg⟩ := hrel
      have hd := UB.out k
      by_cases hlt : k < m
      · obtain ⟨t, b, o, q, d, ht, rfl, hb, c1, c2, hs, hts⟩ := (HR.out.gr ((Gr.alloc _ _).trans hg.out) HB.out) k (by rw [HM.out]; exact hlt)
        obtain ⟨b0, b1, _, _, hbl⟩ := (hg.out.has (Has.new w _ _)).two
        have n1 := NX.out k t ht
        have n2 := PB.out t
        by_cases hst : 100 < upN 100 D (l.take k)
        · have HF := Lib.hid (ST.out k hst)
          clear n1
          go_wp2_with fail
          go_ret
          exact ⟨ret_int (by rw [RT.out, HF.out]), (Gr.alloc _ _).trans hg.out⟩
        · rw [if_neg hst] at n1
          have HD := Lib.hid n1
          have HS := Lib.hid hs
          clear n1 ht hs
          have hst' : upN 100 D (l.take k) ≤ 100 := by omega
          go_wp2_with fail
          refine (IH.out _ _ _ (Nat.le_trans HB.out ((Gr.alloc _ _).trans hg.out).size) HS.out).mono ?_
          rintro e w' ⟨rfl, g2⟩
          have hg2 := Lib.hid (hg.out.trans g2)
          clear g2
          go_wp2_with fail
          go_roundw
          case rel => exact ⟨k + 1, by omega, by go_num, by rw [HD.out]; first | rfl | (congr 1; omega), hg2⟩
          case measure => simp [intOf]; omega
      · obtain rfl : k = m := by omega
        have HF := Lib.hid FL.out
        go_wp2_with fail
        go_ret
        exact ⟨ret_int (by rw [RT.out, HF.out]), (Gr.alloc _ _).trans hg.out⟩
theorem small_any (t : Tm) (B : Nat) (w : World) (sv : Value) (hB : B ≤ w.heap.size) (h : SlIn (· < B) w t.args sv) :
    Calls Tryd.prog 31 #[.agg #[.string t.nm, sv], .int .i64 100] w fun e w' => e = .returned (.bool (decide (partsT 100 100 t ≤ 100))) ∧ Gr w w' := by
  obtain ⟨p, c, rfl, hn, hc, hm, hR⟩ := h.row
  have HC : Hid (Calls Tryd.prog 45 #[.agg #[.string t.nm, .slice p t.args.length c], .int .i64 100, .int .i64 100] (w.alloc (.cells #[.string t.nm, .slice p t.args.length c] 24)) fun e w' => e = .returned (.int .i64 (partsT 100 100 t)) ∧ Gr (w.alloc (.cells #[.string t.nm, .slice p t.args.length c] 24)) w') :=
    Lib.hid (parts_any 100 t B _ _ (by omega) (Nat.le_trans hB (Gr.alloc _ _).size) (h.gr (Gr.alloc _ _) hB))
  clear hR h hn
  go_enter Tryd.func31, Tryd.ntmps31
  go_wp2_with fail
  refine HC.out.mono ?_
  rintro e w' ⟨rfl, g2⟩
  have hg2 := Lib.hid ((Gr.alloc _ _).trans g2)
  clear g2
  go_wp2_with fail
  go_ret
  exact ⟨ret_bool (by rw [Bool.eq_iff_iff]; simp; omega), hg2.out⟩
def FewR (w : World) (e : Ending) (w' : World) : Prop := ∃ b : Bool, e = .returned (.bool b) ∧ Gr w w'
theorem few_is {w w' : World} (b : Bool) (h : Gr w w') : FewR w (.returned (.bool b)) w' := ⟨b, rfl, h⟩
set_option maxRecDepth 100000 in
set_option maxHeartbeats 3200000 in
theorem few_any (r : Rl) (B : Nat) (w : World) (sa sl : Value) (hB : B ≤ w.heap.size) (ha : SlIn (· < B) w r.1.args sa) (hl : LIn (· < B) w r.2 sl) :
    Calls Tryd.prog 11 #[.agg #[.string r.1.nm, sa, sl]] w (FewR w) := by
  obtain ⟨p, c, rfl⟩ := ha.form
  obtain ⟨p', c', rfl, hc, hm, hR⟩ := LIn.row hl
  have HA := Lib.hid (fun (w' : World) (g : Gr w w') => small_any r.1 B w' (.slice p r.1.args.length c) (Nat.le_trans hB g.size) (ha.gr g hB))
  have AT := Lib.hid (fun (t : Tm) (w' : World) (v : Value) (hw : B ≤ w'.heap.size) (h : SlIn (· < B) w' t.args v) => small_any t B w' v hw h)
  have hlm : r.2.length ≤ maxLen := Nat.le_trans hc hm
  unfold maxLen at hlm
  obtain ⟨t, l⟩ := r
  dsimp only at *
  have HR := Lib.hid hR
  have HB := Lib.hid hB
  have H0 := Lib.hid (Has.new w 27 #[.string t.nm, .slice p t.args.length c, .slice p' l.length c'])
  have G0 := Lib.hid (Gr.alloc w (.cells #[.string t.nm, .slice p t.args.length c, .slice p' l.length c'] 27))
  clear hR ha hl hB hc hm
  generalize decide (partsT 100 100 t ≤ 100) = A at *
  generalize hln : l.length = n at *
  have HN := Lib.hid hln
  clear hln
  have HX := Lib.hid (fun (w' : World) (g : Gr (w.alloc (.cells #[.string t.nm, .slice p t.args.length c, .slice p' n c'] 27)) w') => H0.out.below g.1 (by simp))
  go_enter Tryd.func11, Tryd.ntmps11
  go_wp2_with fail
  refine (HA.out _ G0.out).mono ?_
  rintro e w1 ⟨rfl, g1⟩
  have G1 := Lib.hid (G0.out.trans g1)
  have B1 := Lib.hid g1
  obtain ⟨x1, x2, x3⟩ := three (HX.out _ g1)
  clear g1
  cases A
  · go_wp2_with fail
    go_ret
    exact few_is _ G1.out
  · by_cases h8 : 12 < n
    · have h8' : (12 : Int) < n := by omega
      go_wp2_with fail
      go_ret
      exact few_is _ G1.out
    · have h8' : ¬ ((12 : Int) < n) := by omega
      go_wp2_with fail
      go_loopw [3] (fun i wL => ∃ k : Nat, k ≤ n ∧ i = .int .i64 k ∧ Hid (Gr w wL) ∧ Hid (Gr (w.alloc (.cells #[.string t.nm, .slice p t.args.length c, .slice p' n c'] 27)) wL)) (fun i _ => n - (intOf i).toNat)
      case atStart => exact ⟨0, by omega, rfl, G1, B1⟩
      case round =>
        obtain ⟨k, hk, rfl, hG, hB2⟩ := hrel
        obtain ⟨y1, y2, y3⟩ := three (HX.out _ hB2.out)
        by_cases hlt : k < n
        · obtain ⟨t2, b, o, q, d, ht, rfl, hb, c1, c2, c3, hs, hts⟩ := (RowL.gr HR.out hG.out HB.out) k (by rw [HN.out]; exact hlt)
          have AK := Lib.hid (AT.out t2.2 wr _ (Nat.le_trans HB.out hG.out.size) hs)
          clear ht hs hts
          generalize decide (partsT 100 100 t2.2 ≤ 100) = A2 at *
          go_wp2_with fail
          refine AK.out.mono ?_
          rintro e w5 ⟨rfl, g5⟩
          have G5 := Lib.hid (hG.out.trans g5)
          have B5 := Lib.hid (hB2.out.trans g5)
          clear g5 c1 c2 c3
          cases A2
          · go_wp2_with fail
            go_ret
            exact few_is _ G5.out
          · go_wp2_with fail
            go_roundw
            case rel => exact ⟨k + 1, by omega, by go_num, G5, B5⟩
            case measure => simp [intOf] <;> omega
        · obtain rfl : k = n := by omega
          go_wp2_with fail
          go_ret
          exact few_is _ hG.out
set_option maxHeartbeats 1600000 in
theorem feed_no (s : ByteArray) (w : World) (hs : s.size ≤ 140737488355328) (h : ∀ k (hk : k < s.size), ((s[k].toNat : Int) == 10) = false) :
    Calls Tryd.prog 30 #[.string s] w fun e w' => e = .returned (.bool false) ∧ w = w' := by
  have H := Lib.hid h
  clear h
  go_enter Tryd.func30, Tryd.ntmps30
  go_wp2_with fail
  go_loop [3] (fun v => ∃ j : Nat, j ≤ s.size ∧ v = .int .i64 j) (fun v => s.size - (intOf v).toNat)
  case atStart => exact ⟨0, Nat.zero_le _, rfl⟩
  case round =>
    obtain ⟨j, hj, rfl⟩ := hrel
    by_cases hlt : j < s.size
    · have c' := H.out j hlt
      go_wp2_with fail
      go_round
      case rel => exact ⟨j + 1, by omega, by go_num⟩
      case measure => simp [intOf] <;> omega
    · obtain rfl : j = s.size := by omega
      go_wp2_with fail
      go_ret
      exact ⟨rfl, rfl⟩
/-! ### No line feed -/
def Nf (l : List UInt8) : Prop := ∀ b ∈ l, b.toNat ≠ 10
theorem nf_app {a b : List UInt8} (h : Nf a) (k : Nf b) : Nf (a ++ b) := fun x hx => (List.mem_append.1 hx).elim (h x) (k x)
theorem nf_all {p : Int → Bool} (hp : p 10 = false) {l : List UInt8} (h : allB p l = true) : Nf l := by
  intro b hb e
  unfold allB at h
  rw [List.all_eq_true] at h
  have h2 := h b hb
  rw [e] at h2
  exact absurd (hp.symm.trans h2) (by decide)
theorem nf_leaf {n : ByteArray} (h : (conB n || (!false && varB n)) = true) : Nf n.data.toList := by
  simp only [Bool.not_false, Bool.true_and, Bool.or_eq_true] at h
  rcases h with h | h
  · unfold conB at h
    rw [Bool.or_eq_true] at h
    rcases h with h | h
    · unfold numB isNum at h
      simp only [Bool.and_eq_true] at h
      exact nf_all (by decide) h.2
    · unfold nameB nameL at h
      simp only [Bool.and_eq_true] at h
      exact nf_all (by decide) h.2
  · unfold varB varL at h
    simp only [Bool.and_eq_true] at h
    exact nf_all (by decide) h.2
theorem nf_tail : ∀ l : List Tm, (∀ t ∈ l, Nf (textT t)) → Nf (tailT l)
  | [], _ => by simp [tailT, Nf]
  | t :: l, h => by
    simp only [tailT]
    refine nf_app (fun b hb => ?_) (nf_tail l (fun x hx => h x (by simp [hx])))
    rcases List.mem_cons.1 hb with rfl | hb
    · decide
    · exact h t (by simp) b hb
theorem nf_term : ∀ (d : Nat) (t : Tm), validT false d t = true → Nf (textT t)
  | 0, t, h => by cases t; simp [validT] at h
  | d + 1, .mk n l, h => by
    by_cases he : l.isEmpty = true
    · rw [validT, if_pos he] at h
      rw [textT, if_pos he, List.append_nil]
      exact nf_leaf h
    · rw [validT, if_neg he] at h
      simp only [Bool.and_eq_true, decide_eq_true_eq, List.all_eq_true] at h
      obtain ⟨⟨h1, h2⟩, h3⟩ := h
      have ht := nf_tail l (fun t ht => nf_term d t (h3 t ht))
      have hn : Nf n.data.toList := by
        unfold nameB nameL at h2
        simp only [Bool.and_eq_true] at h2
        exact nf_all (by decide) h2.2
      rw [textT, if_neg he]
      refine nf_app hn (fun b hb => ?_)
      rcases List.mem_cons.1 hb with rfl | hb
      · decide
      · exact nf_app (fun b hb => ht b (List.mem_of_mem_drop hb)) (fun b hb => by obtain rfl := List.mem_singleton.1 hb; decide) b hb
theorem nf_joinTail {sep : List UInt8} (hs : Nf sep) : ∀ X : List (List UInt8), (∀ x ∈ X, Nf x) → Nf (Lib.joinTail sep X)
  | [], _ => by simp [Lib.joinTail, Nf]
  | x :: X, h => by
    have e : Lib.joinTail sep (x :: X) = (sep ++ x) ++ Lib.joinTail sep X := by simp [Lib.joinTail]
    rw [e]
    exact nf_app (nf_app hs (h x (by simp))) (nf_joinTail hs X (fun y hy => h y (by simp [hy])))
theorem nf_rule {r : Rl} (hv : vlB r = true) : Nf (ruleX r) := by
  obtain ⟨h1, h2, h3⟩ := vl_parts hv
  have hl : ∀ x ∈ r.2.map litX, Nf x := fun x hx => by
    obtain ⟨y, hy, rfl⟩ := List.mem_map.1 hx
    have := nf_term 4 y.2 (at_valid (h3 y hy)).2
    unfold litX
    split
    · exact nf_app (by unfold Nf; decide) this
    · exact nf_app (by unfold Nf; simp) this
  have hb : Nf (bodyX r.2) := by
    unfold bodyX
    cases hX : r.2.map litX with
    | nil => simp [Lib.join_nil, Nf]
    | cons x X =>
      rw [hX] at hl
      rw [Lib.join_cons]
      exact nf_app (hl x (by simp)) (nf_joinTail (by unfold Nf; decide) X (fun y hy => hl y (by simp [hy])))
  unfold ruleX
  refine nf_app (nf_app (nf_term 4 r.1 (at_valid h2).2) ?_) (by unfold Nf; decide)
  split
  · unfold Nf; simp
  · exact nf_app (by unfold Nf; decide) hb
theorem feed_rule {r : Rl} (hv : vlB r = true) (k : Nat) (hk : k < (bs (ruleX r)).size) : (((bs (ruleX r))[k].toNat : Int) == 10) = false := by
  have := nf_rule hv (bs (ruleX r))[k] (by
    have h1 : (bs (ruleX r)).data.toList = ruleX r := bs_list _
    have hm : (bs (ruleX r))[k] ∈ (bs (ruleX r)).data.toList := by
      show (bs (ruleX r)).data[k] ∈ (bs (ruleX r)).data.toList
      exact Array.mem_toList_iff.2 (Array.getElem_mem hk)
    exact (congrArg (fun L => (bs (ruleX r))[k] ∈ L) h1).mp hm)
  rw [beq_eq_false_iff_ne]
  omega
end PriS
end Go.Proofs.YtfdpelokiljigaaDoor
