/- Worlds that agree on all blocks but some. No conditions. -/
import Derived.Test.YtgbbpliihglijaaGreatGAA
namespace Go.Proofs.YtgbbpliihglijaaGreat
open Go Go.RowKit
namespace NetLt
open Kit
/-- Nothing but the blocks of ex may differ, and what is new. -/
structure Lt (ex : Nat → Prop) (a b : World) : Prop where
  os : b.os = a.os
  tape : b.tape = a.tape
  output : b.output = a.output
  size : a.heap.size ≤ b.heap.size
  block : ∀ i, i < a.heap.size → ¬ ex i → b.heap[i]? = a.heap[i]?
section
variable {ex : Nat → Prop} {a b c : World}
theorem Lt.refl (ex : Nat → Prop) (a : World) : Lt ex a a := ⟨rfl, rfl, rfl, Nat.le_refl _, fun _ _ _ => rfl⟩
theorem Lt.of (h : Below a.heap.size a b) : Lt ex a b := ⟨h.os, h.tape, h.output, h.size, fun i hi _ => h.block i hi⟩
theorem Lt.trans (h : Lt ex a b) (k : Lt ex b c) : Lt ex a c := ⟨k.os.trans h.os, k.tape.trans h.tape, k.output.trans h.output, Nat.le_trans h.size k.size, fun i hi hn => (k.block i (Nat.lt_of_lt_of_le hi h.size) hn).trans (h.block i hi hn)⟩
theorem Lt.below (h : Lt ex a b) (k : Below b.heap.size b c) : Lt ex a c := h.trans (Lt.of k)
theorem Lt.put (h : Lt ex a b) {p : Addr} (hp : ex p.block ∨ a.heap.size ≤ p.block) (u : Value) : Lt ex a (b.setCell p u) := by
  refine ⟨by simpa [World.setCell] using h.os, by simpa [World.setCell] using h.tape, by simpa [World.setCell] using h.output, by simpa [World.setCell] using h.size, fun i hi hn => ?_⟩
  have hne : p.block ≠ i := fun e => by
    rcases hp with hp | hp
    · exact hn (e ▸ hp)
    · omega
  refine Eq.trans ?_ (h.block i hi hn)
  simp [World.setCell, Array.getElem?_modify, hne]
theorem Lt.cell (h : Lt ex a b) {g o : Nat} (hg : g < a.heap.size) (hn : ¬ ex g) : b.cell? ⟨g, o, none⟩ = a.cell? ⟨g, o, none⟩ := World.cell?_of_block (w := a) (a := ⟨g, o, none⟩) (h.block g hg hn)
theorem Lt.frozen (h : Lt ex a b) {g o : Nat} (hg : g < a.heap.size) (hn : ¬ ex g) : b.frozen? ⟨g, o, none⟩ = a.frozen? ⟨g, o, none⟩ := by simp [World.frozen?, h.block g hg hn]
theorem Lt.toBelow (h : Lt ex a b) {B : Nat} (hB : B ≤ a.heap.size) (hx : ∀ i, ex i → B ≤ i) : Below B a b := ⟨h.os, h.tape, h.output, h.size, fun i hi => h.block i (by omega) (fun e => by have := hx i e; omega)⟩
theorem Lt.mono {ex' : Nat → Prop} (h : Lt ex a b) (hx : ∀ i, ex i → ex' i) : Lt ex' a b := ⟨h.os, h.tape, h.output, h.size, fun i hi hn => h.block i hi fun e => hn (hx i e)⟩
/-- What is new for the first world may differ. -/
theorem Lt.drop {B : Nat} (h : Lt (fun i => ex i ∨ B ≤ i) a b) (hB : a.heap.size ≤ B) : Lt ex a b := ⟨h.os, h.tape, h.output, h.size, fun i hi hn => h.block i hi fun e => e.elim hn (fun h => by omega)⟩
end
end NetLt
end Go.Proofs.YtgbbpliihglijaaGreat
