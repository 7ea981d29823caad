/- law23's points: a state, a set of inputs, a role. No conditions. Made by gnE1.py. -/
import Derived.Test.YtkfeliogglnngaaGreatGBB
namespace Go.Proofs.YtkfeliogglnngaaGreat
open Go Go.RowKit Go.ChangeShapes Go.Deep
namespace NetPt
open Kit LexM TermM TermI NetM NetN NetK NetO
section
variable {H : Type} {enc : TypeId × Value → H} {W : World} {base : Nat} {sp : Nat → Bool} {held : Bool}
theorem cellsPt : Tryz.prog.cellsOf 30 = 3 := by kernel_rfl
theorem underPt : ∃ f0 f1 f2 : Field, Tryz.prog.underlying 30 = some (.struct #[f0, f1, f2]) ∧ f0.offset = 0 ∧ f1.offset = 1 ∧ f2.offset = 2 ∧ f0.type = 25 ∧ f1.type = 25 ∧ f2.type = 3 := ⟨_, _, _, Tryz.underlying30, rfl, rfl, rfl, rfl, rfl, rfl⟩
set_option maxRecDepth 100000 in
theorem point_in {n : Nat} {cs : List Value} {x : DataW H × List MemPlace} (h : DataW.trod enc Tryz.prog W base sp held n 30 cs = some x) : ∃ (st ip : List Int) (r : Int) (vs vi : Value), cs = [vs, vi, .int .i64 r] ∧ RowE KN (· < W.heap.size) W st vs ∧ RowE KN (· < W.heap.size) W ip vi ∧ I64 r := by
  obtain ⟨f0, f1, f2, hu, o0, o1, o2, y0, y1, y2⟩ := underPt
  obtain ⟨xs, k, hk, hxy, hcl, hxl, hf⟩ := DataW.trod_struct hu h
  rw [cellsPt] at hcl
  match cs, hcl with
  | [v0, v1, v2], _ =>
    match xs, hxl with
    | [x0, x1, x2], _ =>
      have g0 := hf 0 f0 rfl
      have g1 := hf 1 f1 rfl
      have g2 := hf 2 f2 rfl
      simp [o0, o1, o2, y0, y1, y2, cellsI, cellsIs] at g0 g1 g2
      obtain ⟨l0, u0, q0, i0⟩ := nums_in g0
      obtain ⟨l1, u1, q1, i1⟩ := nums_in g1
      obtain ⟨r, q2, i2⟩ := num_in g2
      injection q0 with q0 _
      injection q1 with q1 _
      injection q2 with q2 _
      subst q0 q1 q2
      exact ⟨l0, l1, r, _, _, rfl, i0, i1, i2⟩
end
set_option maxRecDepth 100000 in
theorem open_point {H : Type} {enc : TypeId × Value → H} {W : World} {b0 : Nat} {base : Nat} {sp : Nat → Bool} {held : Bool} {v : Value} {d : DataW H} {p : List MemPlace}
    (hv : Value.okWide Tryz.prog W .any b0 30 v) (h : DataW.Trod enc Tryz.prog W base sp held 30 v d p) : ∃ (st ip : List Int) (r : Int) (vs vi : Value), v = .agg #[vs, vi, .int .i64 r] ∧ RowE KN (· < W.heap.size) W st vs ∧ RowE KN (· < W.heap.size) W ip vi ∧ I64 r := by
  obtain ⟨f0, f1, f2, hu, _⟩ := underPt
  obtain ⟨cs, rfl, hsz⟩ := WideShapes.okWide_struct hu hv
  obtain ⟨fuel, hf⟩ := h
  obtain ⟨st, ip, r, vs, vi, e, k1, k2, k3⟩ := point_in hf
  refine ⟨st, ip, r, vs, vi, ?_, k1, k2, k3⟩
  have e : cs.toList = (#[vs, vi, .int .i64 r] : Array Value).toList := by simpa [Value.cells] using e
  rw [Array.ext' e]
/-- Some bool. -/
def SomeB (w : World) (e : Ending) (w' : World) : Prop := ∃ b, e = .returned (.bool b) ∧ Below w.heap.size w w'
theorem SomeB.mk {b : Bool} {w w' : World} (h : Below w.heap.size w w') : SomeB w (.returned (.bool b)) w' := ⟨b, rfl, h⟩
theorem few_any (p p' : Option Addr) (m c m' c' : Nat) (r : Int) (w : World) : Calls Tryz.prog 7 #[.agg #[.slice p m c, .slice p' m' c', .int .i64 r]] w (SomeB w) := by
  obtain ⟨W1, hW1⟩ : ∃ z, z = w.alloc (.cells #[.slice p m c, .slice p' m' c', .int .i64 r] 30) := ⟨_, rfl⟩
  have K1 : Hid (Below w.heap.size w W1) := Lib.hid (by rw [hW1]; exact below_alloc _ _)
  have H1 : Has W1 w.heap.size #[.slice p m c, .slice p' m' c', .int .i64 r] := by rw [hW1]; exact Has.new _ _ _
  have x1 := H1.cell 0
  have x2 := H1.cell 1
  go_enter Tryz.func7, Tryz.ntmps7
  go_upto_region 1 with fail
  rw [← hW1]
  clear hW1 H1
  go_wp2_with fail
  go_ret
  exact SomeB.mk K1.out
end NetPt
end Go.Proofs.YtkfeliogglnngaaGreat
