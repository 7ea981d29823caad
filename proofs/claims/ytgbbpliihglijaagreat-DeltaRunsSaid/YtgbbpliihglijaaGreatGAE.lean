/- Texts laid together: TermU. Their own heads stand before each. -/
import Derived.Test.YtgbbpliihglijaaGreatGAD
import Derived.Deep.AppendLies
import Derived.Deep.RegionLaw
/- A list of terms that a call makes for itself by append: its row, and the lists behind it. -/
namespace Go.Proofs.YtgbbpliihglijaaGreat
open Go Go.RowKit
namespace TermU
open LexM TermM TermI Kit TermN
theorem Row.deep {B B' : Nat} {w w' : World} {l : List Tm} {p : Option Addr} (h : Row B w l p) (g : Below B' w w') (hB : B ≤ B') : Row B w' l p := fun k hk => by
  obtain ⟨t, b, o, q, d, h1, h2, h3, h4, h5, h6, h7⟩ := h k hk
  exact ⟨t, b, o, q, d, h1, h2, h3, (g.cell (p := ⟨b, _, none⟩) (Nat.lt_of_lt_of_le h3 hB)).trans h4, (g.cell (p := ⟨b, _, none⟩) (Nat.lt_of_lt_of_le h3 hB)).trans h5, h6.deep g hB, h7⟩
def flatL (L : List (Tm × Value)) : List Value := L.flatMap fun x => [.string x.1.nm, x.2]
theorem flatL_snoc (L : List (Tm × Value)) (t : Tm) (v : Value) : flatL (L ++ [(t, v)]) = flatL L ++ [.string t.nm, v] := by simp [flatL]
theorem flatL_len (L : List (Tm × Value)) : (flatL L).length = L.length * 2 := by
  induction L with
  | nil => rfl
  | cons a L ih => simp [flatL] at ih ⊢; omega
theorem flatL_get : ∀ (L : List (Tm × Value)) (i : Nat) (x : Tm × Value), L[i]? = some x → (flatL L)[i * 2]? = some (.string x.1.nm) ∧ (flatL L)[i * 2 + 1]? = some x.2
  | [], i, x, h => by simp at h
  | a :: L, 0, x, h => by simp at h; subst h; exact ⟨rfl, rfl⟩
  | a :: L, i + 1, x, h => by
    have ih := flatL_get L i x (by simpa using h)
    have e : (i + 1) * 2 = i * 2 + 2 := by omega
    rw [e]
    exact ih
/-- The slice value v is a row of the call's own, from block base on, that holds the terms of L; the lists behind them lie in blocks from base on too, none of them the row's. -/
def Own (base : Nat) (w : World) (L : List (Tm × Value)) (v : Value) : Prop :=
  w.ownsRow base 58 2 v L.length (flatL L) ∧ ∃ ok : Nat → Prop, (∀ b, ok b → base ≤ b ∧ b < w.heap.size ∧ v.ownBlock ≠ some b) ∧ ∀ x ∈ L, SlIn ok w x.1.args x.2 ∧ x.1.nm.size ≤ maxLen
section
variable {base : Nat} {w w' : World} {L : List (Tm × Value)} {v : Value}
theorem Own.nil (base : Nat) (w : World) : Own base w [] (.slice none 0 0) :=
  ⟨⟨rfl, Or.inl ⟨rfl, rfl⟩⟩, fun _ => False, fun b h => h.elim, fun x h => by simp at h⟩
theorem Own.form (h : Own base w L v) : ∃ a c, v = .slice a L.length c := by
  rcases h.1.2 with ⟨e, hz⟩ | ⟨g, cap, cur, e, _⟩
  · exact ⟨none, 0, by rw [e, hz]⟩
  · exact ⟨_, cap, e⟩
theorem Own.below (h : Own base w L v) (hb : Below w.heap.size w w') : Own base w' L v := by
  obtain ⟨h1, ok, h2, h3⟩ := h
  have hl := h1.lt
  refine ⟨⟨h1.1, ?_⟩, ok, fun b hk => ⟨(h2 b hk).1, Nat.lt_of_lt_of_le (h2 b hk).2.1 hb.size, (h2 b hk).2.2⟩, fun x hx => ⟨(h3 x hx).1.frame fun b o hk => hb.cell (p := ⟨b, o, none⟩) (h2 b hk).2.1, (h3 x hx).2⟩⟩
  rcases h1.2 with h | ⟨g, cap, cur, e1, e2, e3, e4⟩
  · exact Or.inl h
  · exact Or.inr ⟨g, cap, cur, e1, e2, (hb.block g (hl g (by rw [e1]; rfl)).2).trans e3, e4⟩
theorem Own.far (h : Own base w L v) {p : Addr} (hp : p.block < base) (u : Value) : Own base (w.setCell p u) L v := by
  obtain ⟨h1, ok, h2, h3⟩ := h
  refine ⟨ownsRow_setCell_below h1 hp u, ok, fun b hk => ⟨(h2 b hk).1, by simpa using (h2 b hk).2.1, (h2 b hk).2.2⟩, fun x hx => ⟨(h3 x hx).1.frame fun b o hk => ?_, (h3 x hx).2⟩⟩
  exact World.cell?_of_block (w := w) (a := ⟨b, o, none⟩) (Below.heap_setCell _ _ _ _ (show b ≠ p.block by have := (h2 b hk).1; omega))
theorem Own.add {w2 w3 : World} {o : Obj} {lo g cap : Nat} {t : Tm} {v1 : Value} (h : Own base w2 L v) (hs : SlIn (fun b => lo ≤ b ∧ b < w2.heap.size) w2 t.args v1) (hn : t.nm.size ≤ maxLen) (hlo : base ≤ lo) (hv : ∀ k, v.ownBlock = some k → k < lo)
    (hown : w3.ownsRow base 58 2 (.slice (some ⟨g, 0, none⟩) (L.length + 1) cap) (L.length + 1) (flatL L ++ [.string t.nm, v1])) (hgrow : (w2.alloc o).grownBy w3 v.ownBlock) (hat : v.ownBlock = some g ∨ g = w2.heap.size + 1) :
    Own base w3 (L ++ [(t, v1)]) (.slice (some ⟨g, 0, none⟩) (L.length + 1) cap) := by
  obtain ⟨h1, ok, h2, h3⟩ := h
  have hsz : w2.heap.size + 1 ≤ w3.heap.size := by have := hgrow.size; simpa using this
  have fr : ∀ b o, b < w2.heap.size → v.ownBlock ≠ some b → w3.cell? ⟨b, o, none⟩ = w2.cell? ⟨b, o, none⟩ := fun b o hb hne => by
    refine World.cell?_of_block (w := w2) (a := ⟨b, o, none⟩) ?_
    exact (hgrow.block b (by simp; omega) (fun e => hne e.symm)).trans (Below.heap_alloc _ _ _ hb)
  refine ⟨by rw [List.length_append, flatL_snoc]; exact hown, fun b => ok b ∨ (lo ≤ b ∧ b < w2.heap.size), fun b hk => ?_, fun x hx => ?_⟩
  · rcases hk with hk | hk
    · obtain ⟨a1, a2, a3⟩ := h2 b hk
      refine ⟨a1, by omega, ?_⟩
      intro e
      have e' : g = b := by simpa [Value.ownBlock] using e
      rcases hat with h | h
      · exact a3 (by rw [h, e'])
      · omega
    · refine ⟨by omega, by omega, ?_⟩
      intro e
      have e' : g = b := by simpa [Value.ownBlock] using e
      rcases hat with h | h
      · have := hv g h; omega
      · omega
  · rcases List.mem_append.1 hx with hx | hx
    · refine ⟨((h3 x hx).1.frame fun b o hk => fr b o (h2 b hk).2.1 (h2 b hk).2.2).weaken fun b hk => Or.inl hk, (h3 x hx).2⟩
    · obtain rfl := List.mem_singleton.1 hx
      refine ⟨(hs.frame fun b o hk => fr b o hk.2 (fun e => by have := hv b e; omega)).weaken fun b hk => Or.inr hk, hn⟩
theorem Own.slin (h : Own base w L v) : SlIn (fun b => base ≤ b ∧ b < w.heap.size) w (L.map (·.1)) v := by
  obtain ⟨h1, ok, h2, h3⟩ := h
  have hl := h1.lt
  have key : ∀ (i : Nat) (t : Tm), (L.map (·.1))[i]? = some t → ∃ x : Tm × Value, L[i]? = some x ∧ x.1 = t := by
    intro i t ht
    rw [List.getElem?_map] at ht
    obtain ⟨x, a, b⟩ := Option.map_eq_some_iff.1 ht
    exact ⟨x, a, b⟩
  rcases h1.2 with ⟨rfl, hz⟩ | ⟨g, cap, cur, rfl, e2, e3, e4, e5, e6, e7⟩
  · have : L = [] := List.eq_nil_of_length_eq_zero hz
    subst this
    exact SlIn.none _ _
  · have hm : (L.map (·.1)).length = L.length := by simp
    rw [← hm]
    refine .mk _ cap _ (fun i => (L.getD i (default, undef)).2) g 0 (fun _ => ⟨rfl, hl g rfl⟩) (fun h => by cases h) (by rw [hm]; exact e4) e5 (fun i t ht => ?_) (fun i t ht => ?_)
    · obtain ⟨x, hx, rfl⟩ := key i t ht
      have hi : i < L.length := (List.getElem?_eq_some_iff.1 hx).1
      obtain ⟨f1, f2⟩ := flatL_get L i x hx
      rw [Nat.zero_add]
      exact ⟨(h1.cellAt _ (by omega)).trans f1, by rw [h1.cellAt _ (by omega), f2]; simp [List.getD, hx], (h3 x (List.mem_of_getElem? hx)).2⟩
    · obtain ⟨x, hx, rfl⟩ := key i t ht
      have := (h3 x (List.mem_of_getElem? hx)).1.weaken fun b hk => (⟨(h2 b hk).1, (h2 b hk).2.1⟩ : base ≤ b ∧ b < w.heap.size)
      simpa [List.getD, hx] using this
end
theorem news2 (w : World) (a b : Value) (t : TypeId) : ∀ j u, [a, b][j]? = some u → (w.alloc (.cells #[a, b] t)).cell? ((⟨w.heap.size, 0, none⟩ : Addr).add j) = some u := World.news_of_block (heap_alloc_new w _)
theorem one2 (a : ByteArray) (p : Option Addr) (n c : Nat) : ∀ u ∈ [Value.string a, .slice p n c], u.oneCell' = true := by
  intro u hu
  simp at hu
  rcases hu with rfl | rfl <;> rfl
theorem Tryz.info28 : (Tryz.prog.info? 58).map (fun i => (i.zero, i.size, i.bytes)) = some (some (.agg #[.string ⟨#[]⟩, .slice none 0 0]), 2, 40) := by kernel_rfl
end TermU
end Go.Proofs.YtgbbpliihglijaaGreat
