/- law21's points: a state and a set of inputs as bits. No conditions. Made by gnE2.py. -/
import Derived.Test.YtedilgnnfmplgaaDoorGBB
namespace Go.Proofs.YtedilgnnfmplgaaDoor
open Go Go.RowKit Go.ChangeShapes Go.Deep
namespace NetPs
open Kit LexM TermM TermI NetM NetN NetK NetO
section
variable {H : Type} {enc : TypeId × Value → H} {W : World} {base : Nat} {sp : Nat → Bool} {held : Bool}
theorem cellsPs : Tryd.prog.cellsOf 42 = 2 := by kernel_rfl
theorem cellsU : Tryd.prog.cellsOf 40 = 1 := by kernel_rfl
theorem underPs : ∃ f0 f1 : Field, Tryd.prog.underlying 42 = some (.struct #[f0, f1]) ∧ f0.offset = 0 ∧ f1.offset = 1 ∧ f0.type = 40 ∧ f1.type = 40 := ⟨_, _, Tryd.underlying42, rfl, rfl, rfl, rfl⟩
theorem u64_in {n : Nat} {cs : List Value} {x : DataW H × List MemPlace} (h : DataW.trod enc Tryd.prog W base sp held n 40 cs = some x) : ∃ y : Nat, cs = [.int .u64 (y : Int)] ∧ y < 18446744073709551616 := by
  obtain ⟨a, e0, _, wa⟩ := DataW.trod_int Tryd.underlying40 h
  obtain ⟨h1, h2⟩ := bounds_u64 wa
  exact ⟨a.toNat, by rw [e0, Int.toNat_of_nonneg h1], by omega⟩
set_option maxRecDepth 100000 in
theorem spoint_in {n : Nat} {cs : List Value} {x : DataW H × List MemPlace} (h : DataW.trod enc Tryd.prog W base sp held n 42 cs = some x) : ∃ a b : Nat, cs = [.int .u64 (a : Int), .int .u64 (b : Int)] ∧ a < 18446744073709551616 ∧ b < 18446744073709551616 := by
  obtain ⟨f0, f1, hu, o0, o1, y0, y1⟩ := underPs
  obtain ⟨xs, k, hk, hxy, hcl, hxl, hf⟩ := DataW.trod_struct hu h
  rw [cellsPs] at hcl
  match cs, hcl with
  | [v0, v1], _ =>
    match xs, hxl with
    | [x0, x1], _ =>
      have g0 := hf 0 f0 rfl
      have g1 := hf 1 f1 rfl
      simp [o0, o1, y0, y1, cellsU] at g0 g1
      obtain ⟨a, q0, i0⟩ := u64_in g0
      obtain ⟨b, q1, i1⟩ := u64_in g1
      injection q0 with q0 _
      injection q1 with q1 _
      subst q0 q1
      exact ⟨a, b, rfl, i0, i1⟩
end
set_option maxRecDepth 100000 in
theorem open_spoint {H : Type} {enc : TypeId × Value → H} {W : World} {b0 : Nat} {base : Nat} {sp : Nat → Bool} {held : Bool} {v : Value} {d : DataW H} {p : List MemPlace}
    (hv : Value.okWide Tryd.prog W .any b0 42 v) (h : DataW.Trod enc Tryd.prog W base sp held 42 v d p) : ∃ a b : Nat, v = .agg #[.int .u64 (a : Int), .int .u64 (b : Int)] ∧ a < 18446744073709551616 ∧ b < 18446744073709551616 := by
  obtain ⟨f0, f1, hu, _⟩ := underPs
  obtain ⟨cs, rfl, hsz⟩ := WideShapes.okWide_struct hu hv
  obtain ⟨fuel, hf⟩ := h
  obtain ⟨a, b, e, k1, k2⟩ := spoint_in hf
  refine ⟨a, b, ?_, k1, k2⟩
  have e : cs.toList = (#[.int .u64 (a : Int), .int .u64 (b : Int)] : Array Value).toList := by simpa [Value.cells] using e
  rw [Array.ext' e]
end NetPs
end Go.Proofs.YtedilgnnfmplgaaDoor
