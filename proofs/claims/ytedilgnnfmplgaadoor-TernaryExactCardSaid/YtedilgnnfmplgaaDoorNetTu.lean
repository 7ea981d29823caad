/- The listed variables of layer 25's rows (the tables of the connectives): a world that holds them, and what a row's list gives a walk. No conditions. -/
import Derived.Test.YtedilgnnfmplgaaDoorNetTt
import Derived.Test.YtedilgnnfmplgaaDoorRows
import Derived.Deep.DeepHandedRow
import Derived.Lib.LaidTab
import Derived.LaidSub
import Derived.OpenShut
import Derived.Deep.RegionHeld
namespace Go.Proofs.YtedilgnnfmplgaaDoor
open Go Go.RowKit Go.ChangeShapes Go.WideShapes Go.ChangeAt
namespace NetTu
open NetTn NetTt
abbrev list : List (String × DataW Unit) := [("gameplayer/ternary.conjunctions", Rows.laid_gameplayer_ternary_conjunctions), ("gameplayer/ternary.disjunctions", Rows.laid_gameplayer_ternary_disjunctions), ("gameplayer/ternary.negations", Rows.laid_gameplayer_ternary_negations)]
noncomputable def lay1 (w : World) (g : Nat) (cs : Array Value) : World :=
  { w with heap := w.heap.modify g fun
      | .cells _ t frozen => .cells cs t frozen
      | o => o }
def nums (l : List Int) : Array Value := (l.map fun x => Value.int .i64 x).toArray
noncomputable def laidWorld (os : Os) : World :=
  lay1 (lay1 (lay1 (World.holding Tryd.prog os ⟨#[], #[], []⟩) 0 (nums [0, 0, 0, 0, 1, 2, 0, 2, 2])) 1 (nums [0, 1, 2, 1, 1, 1, 2, 1, 2])) 2 (nums [1, 0, 2])
theorem laid_met_gen (os : Os) (args : Array Value) : laidMet Tryd.prog list ((laidWorld os).forCall (fun _ _ => 0) ⟨#[], args, []⟩).memory :=
  laidMet_of_run' 8 (by kernel_rfl) (by kernel_rfl)
section
variable {H : Type} {enc : TypeId × Value → H} {P : Program} {w : World} {base : Nat} {sp : Nat → Bool} {held : Bool} {fuel : Nat} {t e i : TypeId} {cs : List Value} {p : List MemPlace}
theorem ints {n : Nat} {ls : List Int} (ht : P.underlying t = some (.array n e)) (he : P.underlying e = some (.int .i64)) (hce : P.cellsOf e = 1)
    (h : DataW.trod enc P w base sp held fuel t cs = some (.agg (ls.map fun l => .lit (.int .i64 l)), p)) : ∀ (j : Nat) (x : Int), ls[j]? = some x → cs[j]? = some (Value.int .i64 x) := by
  obtain ⟨xs, m, _, hx, hlen, hxl, hall⟩ := DataW.trod_array ht h
  have hxs : xs.map (·.1) = ls.map fun l => (DataW.lit (.int .i64 l) : DataW H) := by
    have := congrArg Prod.fst hx
    simpa using this.symm
  have hll : ls.length = n := by
    have := congrArg List.length hxs
    simp at this
    omega
  intro j x hj
  have hi : j < n := by have := (List.getElem?_eq_some_iff.1 hj).1; omega
  obtain ⟨b, hb⟩ : ∃ b, xs[j]? = some b := ⟨xs[j]'(by omega), by simp⟩
  have hf := hall j hi
  rw [hb, hce, Nat.mul_one] at hf
  obtain ⟨s, hc, rfl, _⟩ := DataW.trod_int he hf
  have h1 : cs[j]? = some (.int .i64 s) := by
    have := congrArg (·[0]?) hc
    simpa [List.getElem?_take, List.getElem?_drop] using this
  have h2 : (xs.map (·.1))[j]? = some (DataW.lit (.int .i64 s) : DataW H) := by simp [hb]
  rw [hxs] at h2
  simp only [List.getElem?_map, Option.map_eq_some_iff, DataW.lit.injEq, Lit.int.injEq] at h2
  obtain ⟨l, hl, _, hls⟩ := h2
  rw [hj] at hl
  rw [h1, Option.some.inj hl, hls]
theorem rows {n m : Nat} {lss : List (List Int)} (ht : P.underlying t = some (.array n e)) (he : P.underlying e = some (.array m i)) (hi : P.underlying i = some (.int .i64)) (hci : P.cellsOf i = 1) (hce : P.cellsOf e = m)
    (h : DataW.trod enc P w base sp held fuel t cs = some (.agg (lss.map fun ls => .agg (ls.map fun l => .lit (.int .i64 l))), p)) : ∀ (j : Nat) (ls : List Int), lss[j]? = some ls → ∀ (k : Nat) (x : Int), ls[k]? = some x → k < m → cs[j * m + k]? = some (Value.int .i64 x) := by
  obtain ⟨xs, q, _, hx, hlen, hxl, hall⟩ := DataW.trod_array ht h
  have hxs : xs.map (·.1) = lss.map fun ls => (DataW.agg (ls.map fun l => .lit (.int .i64 l)) : DataW H) := by
    have := congrArg Prod.fst hx
    simpa using this.symm
  have hll : lss.length = n := by
    have := congrArg List.length hxs
    simp at this
    omega
  intro j ls hj k x hk hkm
  have hjn : j < n := by have := (List.getElem?_eq_some_iff.1 hj).1; omega
  obtain ⟨b, hb⟩ : ∃ b, xs[j]? = some b := ⟨xs[j]'(by omega), by simp⟩
  have hf := hall j hjn
  rw [hb, hce] at hf
  have h2 : (xs.map (·.1))[j]? = some b.1 := by simp [hb]
  rw [hxs, List.getElem?_map, hj] at h2
  have hb1 : b.1 = (DataW.agg (ls.map fun l => .lit (.int .i64 l)) : DataW H) := (Option.some.inj h2).symm
  obtain ⟨b1, b2⟩ := b
  dsimp only at hb1
  subst hb1
  have h3 := ints he hi hci hf k x hk
  rw [List.getElem?_take, if_pos hkm, List.getElem?_drop] at h3
  exact h3
end
theorem gC : Tryd.prog.globalNamed "gameplayer/ternary.conjunctions" = some 0 := by kernel_rfl
theorem gD : Tryd.prog.globalNamed "gameplayer/ternary.disjunctions" = some 1 := by kernel_rfl
theorem gN : Tryd.prog.globalNamed "gameplayer/ternary.negations" = some 2 := by kernel_rfl
theorem small3 {i : Nat} (h : i < 3) : i = 0 ∨ i = 1 ∨ i = 2 := by omega
theorem tabs {W : World} (h : laidMetH Tryd.prog list W) : Tb W := by
  have h1 : laidMet Tryd.prog list W := h
  have hc := laidMet.filter (fun x => x.1 == "gameplayer/ternary.conjunctions") h1
  have hd := laidMet.filter (fun x => x.1 == "gameplayer/ternary.disjunctions") h1
  have hn := laidMet.filter (fun x => x.1 == "gameplayer/ternary.negations") h1
  have hc' : laidMet Tryd.prog [("gameplayer/ternary.conjunctions", Rows.laid_gameplayer_ternary_conjunctions)] W := hc
  have hd' : laidMet Tryd.prog [("gameplayer/ternary.disjunctions", Rows.laid_gameplayer_ternary_disjunctions)] W := hd
  have hn' : laidMet Tryd.prog [("gameplayer/ternary.negations", Rows.laid_gameplayer_ternary_negations)] W := hn
  clear hc hd hn h1 h
  refine ⟨?_, ?_, ?_⟩
  · obtain ⟨ps, ⟨g', t', cs, fuel, p, q, hg', ht', hvar, hd, _, _⟩, _⟩ := hc'
    obtain rfl := Option.some.inj (gC.symm.trans hg')
    obtain rfl := Option.some.inj ((show (Tryd.prog.globals[0]?).map (·.type) = some 54 by kernel_rfl).symm.trans ht')
    have hr := rows (lss := [[0, 0, 0], [0, 1, 2], [0, 2, 2]]) Tryd.underlying54 Tryd.underlying53 Tryd.underlying3 (by kernel_rfl) (by kernel_rfl) hd
    intro i j hi hj
    refine (World.var?_cell gC hvar (i * 3 + j)).trans ?_
    rcases small3 hi with rfl | rfl | rfl <;> rcases small3 hj with rfl | rfl | rfl
    · rw [show tand ((0 : Nat) : Int) ((0 : Nat) : Int) = 0 by decide]
      rw [← Array.getElem?_toList]
      exact hr 0 [0, 0, 0] rfl 0 0 rfl (by omega)
    · rw [show tand ((0 : Nat) : Int) ((1 : Nat) : Int) = 0 by decide]
      rw [← Array.getElem?_toList]
      exact hr 0 [0, 0, 0] rfl 1 0 rfl (by omega)
    · rw [show tand ((0 : Nat) : Int) ((2 : Nat) : Int) = 0 by decide]
      rw [← Array.getElem?_toList]
      exact hr 0 [0, 0, 0] rfl 2 0 rfl (by omega)
    · rw [show tand ((1 : Nat) : Int) ((0 : Nat) : Int) = 0 by decide]
      rw [← Array.getElem?_toList]
      exact hr 1 [0, 1, 2] rfl 0 0 rfl (by omega)
    · rw [show tand ((1 : Nat) : Int) ((1 : Nat) : Int) = 1 by decide]
      rw [← Array.getElem?_toList]
      exact hr 1 [0, 1, 2] rfl 1 1 rfl (by omega)
    · rw [show tand ((1 : Nat) : Int) ((2 : Nat) : Int) = 2 by decide]
      rw [← Array.getElem?_toList]
      exact hr 1 [0, 1, 2] rfl 2 2 rfl (by omega)
    · rw [show tand ((2 : Nat) : Int) ((0 : Nat) : Int) = 0 by decide]
      rw [← Array.getElem?_toList]
      exact hr 2 [0, 2, 2] rfl 0 0 rfl (by omega)
    · rw [show tand ((2 : Nat) : Int) ((1 : Nat) : Int) = 2 by decide]
      rw [← Array.getElem?_toList]
      exact hr 2 [0, 2, 2] rfl 1 2 rfl (by omega)
    · rw [show tand ((2 : Nat) : Int) ((2 : Nat) : Int) = 2 by decide]
      rw [← Array.getElem?_toList]
      exact hr 2 [0, 2, 2] rfl 2 2 rfl (by omega)
  · obtain ⟨ps, ⟨g', t', cs, fuel, p, q, hg', ht', hvar, hd, _, _⟩, _⟩ := hd'
    obtain rfl := Option.some.inj (gD.symm.trans hg')
    obtain rfl := Option.some.inj ((show (Tryd.prog.globals[1]?).map (·.type) = some 54 by kernel_rfl).symm.trans ht')
    have hr := rows (lss := [[0, 1, 2], [1, 1, 1], [2, 1, 2]]) Tryd.underlying54 Tryd.underlying53 Tryd.underlying3 (by kernel_rfl) (by kernel_rfl) hd
    intro i j hi hj
    refine (World.var?_cell gD hvar (i * 3 + j)).trans ?_
    rcases small3 hi with rfl | rfl | rfl <;> rcases small3 hj with rfl | rfl | rfl
    · rw [show tor ((0 : Nat) : Int) ((0 : Nat) : Int) = 0 by decide]
      rw [← Array.getElem?_toList]
      exact hr 0 [0, 1, 2] rfl 0 0 rfl (by omega)
    · rw [show tor ((0 : Nat) : Int) ((1 : Nat) : Int) = 1 by decide]
      rw [← Array.getElem?_toList]
      exact hr 0 [0, 1, 2] rfl 1 1 rfl (by omega)
    · rw [show tor ((0 : Nat) : Int) ((2 : Nat) : Int) = 2 by decide]
      rw [← Array.getElem?_toList]
      exact hr 0 [0, 1, 2] rfl 2 2 rfl (by omega)
    · rw [show tor ((1 : Nat) : Int) ((0 : Nat) : Int) = 1 by decide]
      rw [← Array.getElem?_toList]
      exact hr 1 [1, 1, 1] rfl 0 1 rfl (by omega)
    · rw [show tor ((1 : Nat) : Int) ((1 : Nat) : Int) = 1 by decide]
      rw [← Array.getElem?_toList]
      exact hr 1 [1, 1, 1] rfl 1 1 rfl (by omega)
    · rw [show tor ((1 : Nat) : Int) ((2 : Nat) : Int) = 1 by decide]
      rw [← Array.getElem?_toList]
      exact hr 1 [1, 1, 1] rfl 2 1 rfl (by omega)
    · rw [show tor ((2 : Nat) : Int) ((0 : Nat) : Int) = 2 by decide]
      rw [← Array.getElem?_toList]
      exact hr 2 [2, 1, 2] rfl 0 2 rfl (by omega)
    · rw [show tor ((2 : Nat) : Int) ((1 : Nat) : Int) = 1 by decide]
      rw [← Array.getElem?_toList]
      exact hr 2 [2, 1, 2] rfl 1 1 rfl (by omega)
    · rw [show tor ((2 : Nat) : Int) ((2 : Nat) : Int) = 2 by decide]
      rw [← Array.getElem?_toList]
      exact hr 2 [2, 1, 2] rfl 2 2 rfl (by omega)
  · obtain ⟨ps, ⟨g', t', cs, fuel, p, q, hg', ht', hvar, hd, _, _⟩, _⟩ := hn'
    obtain rfl := Option.some.inj (gN.symm.trans hg')
    obtain rfl := Option.some.inj ((show (Tryd.prog.globals[2]?).map (·.type) = some 53 by kernel_rfl).symm.trans ht')
    have hr := ints (ls := [1, 0, 2]) Tryd.underlying53 Tryd.underlying3 (by kernel_rfl) hd
    intro i hi
    refine (World.var?_cell gN hvar i).trans ?_
    rcases small3 hi with rfl | rfl | rfl
    · rw [show tnot ((0 : Nat) : Int) = 1 by decide]
      rw [← Array.getElem?_toList]
      exact hr 0 1 rfl
    · rw [show tnot ((1 : Nat) : Int) = 0 by decide]
      rw [← Array.getElem?_toList]
      exact hr 1 0 rfl
    · rw [show tnot ((2 : Nat) : Int) = 2 by decide]
      rw [← Array.getElem?_toList]
      exact hr 2 2 rfl
end NetTu
end Go.Proofs.YtedilgnnfmplgaaDoor
