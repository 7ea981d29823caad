/- Rows of ways (lists of pairs) in memory: given rows, rows of the call's own whose pairs lie anywhere but in the row. No conditions. -/
import Derived.Test.YtihbnonbhelbmaaGreatDoorLigQ
namespace Go.Proofs.YtihbnonbhelbmaaGreatDoor
open Go Go.RowKit
namespace LigW
open LexM TermM TermI Kit TermN TermU UniK UniM LigP LigQ
abbrev Wy := List Bd × Value
/-- A row of lists of pairs. -/
def WIn (ok : Nat → Prop) (w : World) (l : List (List Bd)) (v : Value) : Prop :=
  ∃ L : List Wy, L.map (·.1) = l ∧ ∃ p c, v = .slice p L.length c ∧ L.length ≤ c ∧ c ≤ maxLen ∧ (∀ x ∈ L, PIn ok w x.1 x.2) ∧
    (0 < L.length → ∃ g o, p = some ⟨g, o, none⟩ ∧ ok g ∧ ∀ i x, L[i]? = some x → w.cell? ⟨g, o + i, none⟩ = some x.2)
theorem WIn.keep {ok : Nat → Prop} {w w' : World} {l : List (List Bd)} {v : Value} (h : WIn ok w l v) (hf : ∀ b o, ok b → w'.cell? ⟨b, o, none⟩ = w.cell? ⟨b, o, none⟩) : WIn ok w' l v := by
  obtain ⟨L, e, p, c, e1, e2, e3, e4, e5⟩ := h
  refine ⟨L, e, p, c, e1, e2, e3, fun x hx => (e4 x hx).keep hf, fun h0 => ?_⟩
  obtain ⟨g, o, a1, a2, a3⟩ := e5 h0
  exact ⟨g, o, a1, a2, fun i x hx => (hf g _ a2).trans (a3 i x hx)⟩
theorem WIn.wide {ok ok' : Nat → Prop} {w : World} {l : List (List Bd)} {v : Value} (h : WIn ok w l v) (hk : ∀ b, ok b → ok' b) : WIn ok' w l v := by
  obtain ⟨L, e, p, c, e1, e2, e3, e4, e5⟩ := h
  refine ⟨L, e, p, c, e1, e2, e3, fun x hx => (e4 x hx).wide hk, fun h0 => ?_⟩
  obtain ⟨g, o, a1, a2, a3⟩ := e5 h0
  exact ⟨g, o, a1, hk g a2, a3⟩
theorem WIn.form {ok : Nat → Prop} {w : World} {l : List (List Bd)} {v : Value} (h : WIn ok w l v) : ∃ p c, v = .slice p l.length c := by
  obtain ⟨L, rfl, p, c, e, _⟩ := h
  exact ⟨p, c, by rw [e]; simp⟩
theorem WIn.nil (ok : Nat → Prop) (w : World) : WIn ok w [] (.slice none 0 0) := ⟨[], rfl, none, 0, rfl, Nat.le_refl _, Nat.zero_le _, fun x hx => by simp at hx, fun h => by simp at h⟩
theorem WIn.deep {B B' : Nat} {w w' : World} {l : List (List Bd)} {v : Value} (h : WIn (· < B) w l v) (hb : Below B' w w') (hB : B ≤ B') : WIn (· < B) w' l v := h.keep fun _ _ hlt => hb.cell (p := ⟨_, _, none⟩) (Nat.lt_of_lt_of_le hlt hB)
/-- The ways of a list, one cell each. -/
def RowW (B : Nat) (w : World) (l : List (List Bd)) (p : Option Addr) : Prop := ∀ k, k < l.length → ∃ s g o q d, l[k]? = some s ∧ p = some ⟨g, o, none⟩ ∧ g < B ∧ w.cell? ⟨g, o + k, none⟩ = some (.slice q s.length d) ∧ PIn (· < B) w s (.slice q s.length d)
theorem WIn.row {B : Nat} {w : World} {l : List (List Bd)} {v : Value} (h : WIn (· < B) w l v) : ∃ p c, v = .slice p l.length c ∧ l.length ≤ c ∧ c ≤ maxLen ∧ RowW B w l p := by
  obtain ⟨L, rfl, p, c, e, h1, h2, h3, h4⟩ := h
  refine ⟨p, c, by rw [e]; simp, by simpa using h1, h2, fun k hk => ?_⟩
  have hk' : k < L.length := by simpa using hk
  obtain ⟨g, o, e1, e2, e3⟩ := h4 (by omega)
  obtain ⟨x, hx⟩ : ∃ x, L[k]? = some x := ⟨L[k], by simp [hk']⟩
  have hp := h3 x (List.mem_of_getElem? hx)
  obtain ⟨q, d, eq⟩ := hp.form
  exact ⟨x.1, g, o, q, d, by simp [hx], e1, e2, by rw [← eq]; exact e3 k x hx, by rw [← eq]; exact hp⟩
theorem RowW.deep {B B' : Nat} {w w' : World} {l : List (List Bd)} {p : Option Addr} (h : RowW B w l p) (g : Below B' w w') (hB : B ≤ B') : RowW B w' l p := fun k hk => by
  obtain ⟨s, b, o, q, d, h1, h2, h3, h4, h5⟩ := h k hk
  exact ⟨s, b, o, q, d, h1, h2, h3, (g.cell (p := ⟨b, _, none⟩) (Nat.lt_of_lt_of_le h3 hB)).trans h4, h5.deep g hB⟩
/-- A row of the call's own, of ways whose pairs lie anywhere but in it. -/
def OwnW (ok0 : Nat → Prop) (base : Nat) (w : World) (L : List Wy) (v : Value) : Prop :=
  w.ownsRow base 116 1 v L.length (L.map (·.2)) ∧ ∃ ok : Nat → Prop, (∀ b, ok b → (ok0 b ∨ base ≤ b) ∧ b < w.heap.size ∧ v.ownBlock ≠ some b) ∧ ∀ x ∈ L, PIn ok w x.1 x.2
theorem OwnW.nil (ok0 : Nat → Prop) (base : Nat) (w : World) : OwnW ok0 base w [] (.slice none 0 0) :=
  ⟨⟨rfl, Or.inl ⟨rfl, rfl⟩⟩, fun _ => False, fun b h => h.elim, fun x h => by simp at h⟩
theorem OwnW.form {ok0 : Nat → Prop} {base : Nat} {w : World} {L : List Wy} {v : Value} (h : OwnW ok0 base w L v) : ∃ a c, v = .slice a L.length c := by
  rcases h.1.2 with ⟨e, hz⟩ | ⟨g, cap, cur, e, _⟩
  · exact ⟨none, 0, by rw [e, hz]⟩
  · exact ⟨_, cap, e⟩
theorem OwnW.below {ok0 : Nat → Prop} {base : Nat} {w w' : World} {L : List Wy} {v : Value} (h : OwnW ok0 base w L v) (g : Below w.heap.size w w') : OwnW ok0 base w' L v := by
  obtain ⟨h1, ok, h2, h3⟩ := h
  have hl := h1.lt
  refine ⟨⟨h1.1, ?_⟩, ok, fun b hk => ⟨(h2 b hk).1, Nat.lt_of_lt_of_le (h2 b hk).2.1 g.size, (h2 b hk).2.2⟩, fun x hx => (h3 x hx).keep fun b o hk => g.cell (p := ⟨b, o, none⟩) (h2 b hk).2.1⟩
  rcases h1.2 with h | ⟨k, cap, cur, e1, e2, e3, e4⟩
  · exact Or.inl h
  · exact Or.inr ⟨k, cap, cur, e1, e2, (g.block k (hl k (by rw [e1]; rfl)).2).trans e3, e4⟩
theorem OwnW.drewN {ok0 : Nat → Prop} {base : Nat} {w : World} {L : List Wy} {v : Value} (h : OwnW ok0 base w L v) (n : Nat) : OwnW ok0 base (w.drewN n) L v := by
  obtain ⟨h1, ok, h2, h3⟩ := h
  exact ⟨⟨h1.1, h1.2⟩, ok, h2, fun x hx => (h3 x hx).keep fun _ _ _ => rfl⟩
theorem OwnW.add {ok0 : Nat → Prop} {base : Nat} {w2 w3 : World} {L : List Wy} {v : Value} {o : Obj} {g cap : Nat} {x : Wy} {ok' : Nat → Prop} (h : OwnW ok0 base w2 L v) (hs : PIn ok' w2 x.1 x.2) (hok : ∀ b, ok' b → (ok0 b ∨ base ≤ b) ∧ b < w2.heap.size ∧ v.ownBlock ≠ some b)
    (hown : w3.ownsRow base 116 1 (.slice (some ⟨g, 0, none⟩) (L.length + 1) cap) (L.length + 1) (L.map (·.2) ++ [x.2])) (hgrow : (w2.alloc o).grownBy w3 v.ownBlock) (hat : v.ownBlock = some g ∨ g = w2.heap.size + 1) :
    OwnW ok0 base w3 (L ++ [x]) (.slice (some ⟨g, 0, none⟩) (L.length + 1) cap) := by
  obtain ⟨h1, ok, h2, h3⟩ := h
  have hsz : w2.heap.size + 1 ≤ w3.heap.size := by have := hgrow.size; simpa using this
  have fr : ∀ b o, b < w2.heap.size → v.ownBlock ≠ some b → w3.cell? ⟨b, o, none⟩ = w2.cell? ⟨b, o, none⟩ := fun b o hb hne => by
    refine World.cell?_of_block (w := w2) (a := ⟨b, o, none⟩) ?_
    exact (hgrow.block b (by simp; omega) (fun e => hne e.symm)).trans (Below.heap_alloc _ _ _ hb)
  refine ⟨by rw [List.length_append, List.map_append]; exact hown, fun b => ok b ∨ ok' b, fun b hk => ?_, fun y hy => ?_⟩
  · have hb2 : (ok0 b ∨ base ≤ b) ∧ b < w2.heap.size ∧ v.ownBlock ≠ some b := by
      rcases hk with hk | hk
      · exact h2 b hk
      · exact hok b hk
    refine ⟨hb2.1, by omega, fun e => ?_⟩
    have e' : g = b := by simpa [Value.ownBlock] using e
    rcases hat with h | h
    · exact hb2.2.2 (by rw [h, e'])
    · omega
  · rcases List.mem_append.1 hy with hy | hy
    · exact ((h3 y hy).keep fun b o hk => fr b o (h2 b hk).2.1 (h2 b hk).2.2).wide fun b hk => Or.inl hk
    · obtain rfl := List.mem_singleton.1 hy
      exact (hs.keep fun b o hk => fr b o (hok b hk).2.1 (hok b hk).2.2).wide fun b hk => Or.inr hk
theorem OwnW.win {ok0 : Nat → Prop} {base : Nat} {w : World} {L : List Wy} {v : Value} (h : OwnW ok0 base w L v) : WIn (fun b => ok0 b ∨ (base ≤ b ∧ b < w.heap.size)) w (L.map (·.1)) v := by
  obtain ⟨h1, ok, h2, h3⟩ := h
  have hl := h1.lt
  have h3' : ∀ x ∈ L, PIn (fun b => ok0 b ∨ (base ≤ b ∧ b < w.heap.size)) w x.1 x.2 := fun x hx => (h3 x hx).wide fun b hk => (h2 b hk).1.imp id fun h => ⟨h, (h2 b hk).2.1⟩
  refine ⟨L, rfl, ?_⟩
  rcases h1.2 with ⟨e, hz⟩ | ⟨g, cap, cur, e, e2, e3, e4, e5, _⟩
  · exact ⟨none, 0, by rw [e, hz], by omega, Nat.zero_le _, h3', fun h => by omega⟩
  · subst e
    refine ⟨_, cap, rfl, e4, e5, h3', fun _ => ⟨g, 0, rfl, Or.inr (hl g rfl), fun i x hx => ?_⟩⟩
    have hi := (List.getElem?_eq_some_iff.1 hx).1
    rw [Nat.zero_add]
    exact (h1.cellAt _ (by simpa using hi)).trans (by simp [hx])
theorem Tryz.infoW : (Tryz.prog.info? 116).map (fun i => (i.zero, i.size, i.bytes)) = some (some (.slice none 0 0), 1, 24) := by kernel_rfl
end LigW
end Go.Proofs.YtihbnonbhelbmaaGreatDoor
