/- The listed variable of layer 1's rows (the bytes that end names): a world that holds it, and what a row's list gives a walk. No conditions. -/
import Derived.Test.YtikkaiiinkeobaaGreatDoorGAI
import Derived.Deep.DeepHandedRow
import Derived.Lib.LaidTab
import Derived.LaidSub
import Derived.OpenShut
import Derived.Deep.RegionHeld
namespace Go.Proofs.YtikkaiiinkeobaaGreatDoor
open Go Go.RowKit Go.ChangeShapes Go.WideShapes Go.ChangeAt
namespace TermJ
open TermT
abbrev list : List (String × DataW Unit) := [("gameplayer/term.nameEnds", Rows.laid_gameplayer_term_nameEnds)]
noncomputable def lay1 (w : World) (g : Nat) (cs : Array Value) : World :=
  { w with heap := w.heap.modify g fun
      | .cells _ t frozen => .cells cs t frozen
      | o => o }
noncomputable def laidWorld (os : Os) : World :=
  lay1 (World.holding Tryz.prog os ⟨#[], #[], []⟩) 0 #[.int .u8 40, .int .u8 44, .int .u8 41]
theorem laid_met_gen (os : Os) (args : Array Value) : laidMet Tryz.prog list ((laidWorld os).forCall (fun _ _ => 0) ⟨#[], args, []⟩).memory :=
  laidMet_of_run' 8 (by kernel_rfl) (by kernel_rfl)
theorem ints {H : Type} {enc : TypeId × Value → H} {P : Program} {w : World} {base : Nat} {sp : Nat → Bool} {held : Bool} {fuel : Nat} {t e : TypeId} {n : Nat} {cs : List Value} {ls : List Int} {p : List MemPlace}
    (ht : P.underlying t = some (.array n e)) (he : P.underlying e = some (.int .u8)) (hce : P.cellsOf e = 1) (hct : P.cellsOf t = n)
    (h : DataW.trod enc P w base sp held fuel t cs = some (.agg (ls.map fun l => .lit (.int .u8 l)), p)) : cs = ls.map fun l => Value.int .u8 l := by
  obtain ⟨xs, m, _, hx, hlen, hxl, hall⟩ := DataW.trod_array ht h
  have hxs : xs.map (·.1) = ls.map fun l => (DataW.lit (.int .u8 l) : DataW H) := by
    have := congrArg Prod.fst hx
    simpa using this.symm
  have hll : ls.length = n := by
    have := congrArg List.length hxs
    simp at this
    omega
  apply List.ext_getElem?
  intro i
  by_cases hi : i < n
  · obtain ⟨b, hb⟩ : ∃ b, xs[i]? = some b := ⟨xs[i]'(by omega), by simp⟩
    have hf := hall i hi
    rw [hb, hce, Nat.mul_one] at hf
    obtain ⟨s, hc, rfl, _⟩ := DataW.trod_int he hf
    have h1 : cs[i]? = some (.int .u8 s) := by
      have := congrArg (·[0]?) hc
      simpa [List.getElem?_take, List.getElem?_drop] using this
    have h2 : (xs.map (·.1))[i]? = some (DataW.lit (.int .u8 s) : DataW H) := by simp [hb]
    rw [hxs] at h2
    simp only [List.getElem?_map, Option.map_eq_some_iff, DataW.lit.injEq, Lit.int.injEq] at h2
    obtain ⟨l, hl, _, hls⟩ := h2
    rw [h1, List.getElem?_map, hl, hls]
    rfl
  · rw [List.getElem?_eq_none (by omega), List.getElem?_eq_none (by simp; omega)]
theorem gEnds : Tryz.prog.globalNamed "gameplayer/term.nameEnds" = some 0 := by kernel_rfl
theorem ends_gen {W : World} (h : laidMetH Tryz.prog list W) : Wd W := by
  have h1 : laidMet Tryz.prog list W := h
  obtain ⟨ps, ⟨g', t', cs, fuel, p, q, hg', ht', hvar, hd, _, _⟩, _⟩ := h1
  obtain rfl := Option.some.inj (gEnds.symm.trans hg')
  obtain rfl := Option.some.inj ((show (Tryz.prog.globals[0]?).map (·.type) = some 167 by kernel_rfl).symm.trans ht')
  have hc := ints (ls := [40, 44, 41]) Tryz.underlying167 Tryz.underlying5 (by kernel_rfl) (by kernel_rfl) hd
  have c0 := World.var?_cell gEnds hvar 0
  have c1 := World.var?_cell gEnds hvar 1
  have c2 := World.var?_cell gEnds hvar 2
  have e : cs = #[.int .u8 40, .int .u8 44, .int .u8 41] := Array.ext' hc
  rw [e] at c0 c1 c2
  exact ⟨World.block_lt_of_cell? W _ c0, c0, c1, c2⟩
end TermJ
end Go.Proofs.YtikkaiiinkeobaaGreatDoor
