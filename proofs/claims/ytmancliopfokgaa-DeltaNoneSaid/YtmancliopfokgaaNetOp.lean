/- law24's operations: a state and a set of inputs. No conditions. Made by gnOp.py. -/
import Derived.Test.YtmancliopfokgaaGBB
namespace Go.Proofs.Ytmancliopfokgaa
open Go Go.RowKit Go.ChangeShapes Go.Deep
namespace NetOp
open Kit LexM TermM TermI NetM NetN NetK NetO
section
variable {H : Type} {enc : TypeId × Value → H} {W : World} {base : Nat} {sp : Nat → Bool} {held : Bool}
theorem cellsOp : Try.prog.cellsOf 60 = 2 := by kernel_rfl
theorem underOp : ∃ f0 f1 : Field, Try.prog.underlying 60 = some (.struct #[f0, f1]) ∧ f0.offset = 0 ∧ f1.offset = 1 ∧ f0.type = 25 ∧ f1.type = 25 := ⟨_, _, Try.underlying60, rfl, rfl, rfl, rfl⟩
set_option maxRecDepth 100000 in
theorem op_in {n : Nat} {cs : List Value} {x : DataW H × List MemPlace} (h : DataW.trod enc Try.prog W base sp held n 60 cs = some x) : ∃ (st ip : List Int) (vs vi : Value), cs = [vs, vi] ∧ RowE KN (· < W.heap.size) W st vs ∧ RowE KN (· < W.heap.size) W ip vi := by
  obtain ⟨f0, f1, hu, o0, o1, y0, y1⟩ := underOp
  obtain ⟨xs, k, hk, hxy, hcl, hxl, hf⟩ := DataW.trod_struct hu h
  rw [cellsOp] at hcl
  match cs, hcl with
  | [v0, v1], _ =>
    match xs, hxl with
    | [x0, x1], _ =>
      have g0 := hf 0 f0 rfl
      have g1 := hf 1 f1 rfl
      simp [o0, o1, y0, y1, cellsIs] at g0 g1
      obtain ⟨l0, u0, q0, i0⟩ := nums_in g0
      obtain ⟨l1, u1, q1, i1⟩ := nums_in g1
      injection q0 with q0 _
      injection q1 with q1 _
      subst q0 q1
      exact ⟨l0, l1, _, _, rfl, i0, i1⟩
end
set_option maxRecDepth 100000 in
theorem open_op {H : Type} {enc : TypeId × Value → H} {W : World} {b0 : Nat} {base : Nat} {sp : Nat → Bool} {held : Bool} {v : Value} {d : DataW H} {p : List MemPlace}
    (hv : Value.okWide Try.prog W .any b0 60 v) (h : DataW.Trod enc Try.prog W base sp held 60 v d p) : ∃ (st ip : List Int) (vs vi : Value), v = .agg #[vs, vi] ∧ RowE KN (· < W.heap.size) W st vs ∧ RowE KN (· < W.heap.size) W ip vi := by
  obtain ⟨f0, f1, hu, _⟩ := underOp
  obtain ⟨cs, rfl, hsz⟩ := WideShapes.okWide_struct hu hv
  obtain ⟨fuel, hf⟩ := h
  obtain ⟨st, ip, vs, vi, e, k1, k2⟩ := op_in hf
  refine ⟨st, ip, vs, vi, ?_, k1, k2⟩
  have e : cs.toList = (#[vs, vi] : Array Value).toList := by simpa [Value.cells] using e
  rw [Array.ext' e]
end NetOp
end Go.Proofs.Ytmancliopfokgaa
