/- Opening a list of integers that comes in, and the bounds of unsigned arguments. No conditions. -/
import Derived.Test.YtdnonfoidamkcaaRandG
import Derived.ChangeSlices
import Derived.Deep.RegionHeld
namespace Go.Proofs.Ytdnonfoidamkcaa
open Go Go.RowKit Go.ChangeShapes
namespace RandZ
open RandG
theorem bounds_u64 {n : Int} (h : (Lit.int .u64 n).wf = true) : 0 ≤ n ∧ n ≤ 18446744073709551615 := by
  simp [Lit.wf, IntKind.min, IntKind.max, IntKind.signed, IntKind.bits] at h
  omega
theorem bounds_u8 {n : Int} (h : (Lit.int .u8 n).wf = true) : 0 ≤ n ∧ n ≤ 255 := by
  simp [Lit.wf, IntKind.min, IntKind.max, IntKind.signed, IntKind.bits] at h
  omega
theorem cellsInt : Try.prog.cellsOf 3 = 1 := by kernel_rfl
theorem open_ws {H : Type} {enc : TypeId × Value → H} {W : World} {b0 : Nat} {base : Nat} {held : Bool} {v : Value} {d : DataW H} {p : List MemPlace}
    (hv : Value.okWide Try.prog W .any b0 37 v) (h : DataW.Trod enc Try.prog W base (fun _ => true) held 37 v d p) :
    (∃ a cap, v = .slice a 0 cap) ∨ ∃ (b off m cap : Nat) (l : List Int), v = .slice (some ⟨b, off, none⟩) m cap ∧ Ws W b off l ∧ l.length = m := by
  obtain ⟨a0, m0, c0, rfl⟩ := Go.WideShapes.okWide_slice Try.underlying37 hv
  obtain ⟨fuel, hf⟩ := h
  rcases open_ints Try.underlying37 Try.underlying3 cellsInt hf with ⟨h0, _⟩ | ⟨a, len, cap, zs, hc, _, hle, hm, hz, hx, hcell, _⟩
  · simp [Value.cells] at h0
    obtain ⟨rfl, rfl, rfl⟩ := h0
    exact Or.inl ⟨none, 0, rfl⟩
  · simp [Value.cells] at hc
    obtain ⟨rfl, rfl, rfl⟩ := hc
    simp only [if_true] at hz
    by_cases h0 : m0 = 0
    · subst h0; exact Or.inl ⟨_, _, rfl⟩
    · obtain ⟨b, off, spot⟩ := a
      have hspot : spot = none := by simpa [Addr.add] using World.cell?_spot (hcell 0 (by omega))
      subst hspot
      refine Or.inr ⟨b, off, m0, c0, zs.take m0, rfl, ⟨World.block_lt_of_cell? W _ (hcell 0 (by omega)), fun i x hi => ?_⟩, by simp; omega⟩
      have hlt := (List.getElem?_eq_some_iff.1 hi).1
      rw [List.length_take] at hlt
      have hc := hcell i (by omega)
      rw [Go.WideShapes.add_plain] at hc
      rw [hc]
      rw [List.getElem?_take, if_pos (by omega)] at hi
      simp [List.getD, hi]
end RandZ
end Go.Proofs.Ytdnonfoidamkcaa
