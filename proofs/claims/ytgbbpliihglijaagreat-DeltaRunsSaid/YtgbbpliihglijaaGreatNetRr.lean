/- Rows of rows of numbers that are the call's own, each row in a block of its own. No conditions. Made by gnRr.py. -/
import Derived.Test.YtgbbpliihglijaaGreatGBD
import Derived.Test.YtgbbpliihglijaaGreatNetRe
namespace Go.Proofs.YtgbbpliihglijaaGreat
open Go Go.RowKit
namespace NetRr
open Kit LexM TermM TermI NetM NetN NetK NetA NetI NetRe
/-- The rows R lie behind the values V in the cells of block gr; the rows' blocks lie from base on, and no two are the same. -/
structure RowsR (base : Nat) (w : World) (gr n : Nat) (R : List (List Int)) (V : List Value) : Prop where
  lenR : R.length = n
  lenV : V.length = n
  cell : ∀ (j : Nat) (v : Value), V[j]? = some v → w.cell? ⟨gr, j, none⟩ = some v
  free : ∀ j : Nat, w.frozen? ⟨gr, j, none⟩ = false
  lt : gr < w.heap.size
  far : gr < base
  own : ∀ (j : Nat) (l : List Int) (v : Value), R[j]? = some l → V[j]? = some v → w.ownsRow base 3 1 v l.length (numV l)
  apart : ∀ (i j : Nat) (u v : Value) (b : Nat), V[i]? = some u → V[j]? = some v → u.ownBlock = some b → v.ownBlock = some b → i = j
theorem RowsR.below {base gr n : Nat} {w w' : World} {R : List (List Int)} {V : List Value} (h : RowsR base w gr n R V) (q : Below w.heap.size w w') : RowsR base w' gr n R V :=
  ⟨h.lenR, h.lenV, fun j v hv => (q.cell (p := ⟨gr, j, none⟩) h.lt).trans (h.cell j v hv), fun j => (q.frozen (p := ⟨gr, j, none⟩) h.lt).trans (h.free j), Nat.lt_of_lt_of_le h.lt q.size, h.far, fun j l v hl hv => own_below (h.own j l v hl hv) q, h.apart⟩
theorem own_grown {base n : Nat} {w w6 : World} {o : Obj} {v : Value} {cs : List Value} {row : Option Nat} (h : w.ownsRow base 3 1 v n cs) (hg : (w.alloc o).grownBy w6 row) (hne : ∀ b, v.ownBlock = some b → row ≠ some b) : w6.ownsRow base 3 1 v n cs := by
  have hl := h.lt
  refine ⟨h.1, ?_⟩
  rcases h.2 with h | ⟨k, cap, cur, e1, e2, e3, e4⟩
  · exact Or.inl h
  · have hk : v.ownBlock = some k := by rw [e1]; rfl
    have hk2 := (hl k hk).2
    exact Or.inr ⟨k, cap, cur, e1, e2, ((hg.block k (by simp; omega) (fun e => hne k hk e.symm)).trans (Below.heap_alloc _ _ _ hk2)).trans e3, e4⟩
theorem RowsR.push {base gr n g6 c6 j : Nat} {w w6 : World} {o : Obj} {R : List (List Int)} {V : List Value} {l : List Int} {v : Value} {x : Int} (h : RowsR base w gr n R V) (hl : R[j]? = some l) (hv : V[j]? = some v)
    (hown : w6.ownsRow base 3 1 (.slice (some ⟨g6, 0, none⟩) (l.length + 1) c6) (l.length + 1) (numV l ++ [.int .i64 x])) (hgrow : (w.alloc o).grownBy w6 v.ownBlock) (hat : v.ownBlock = some g6 ∨ g6 = w.heap.size + 1) :
    RowsR base (w6.setCell ⟨gr, j, none⟩ (.slice (some ⟨g6, 0, none⟩) (l.length + 1) c6)) gr n (R.set j (l ++ [x])) (V.set j (.slice (some ⟨g6, 0, none⟩) (l.length + 1) c6)) := by
  have hj : j < n := by rw [← h.lenV]; exact (List.getElem?_eq_some_iff.1 hv).1
  have hvl := (h.own j l v hl hv).lt
  have hgr : v.ownBlock ≠ some gr := fun e => by have := (hvl gr e).1; have := h.far; omega
  have hsz : w.heap.size + 1 ≤ w6.heap.size := by have := hgrow.size; simpa using this
  have hblk : w6.heap[gr]? = w.heap[gr]? := (hgrow.block gr (by have := h.lt; simp; omega) (fun e => hgr e.symm)).trans (Below.heap_alloc _ _ _ h.lt)
  have hcell : ∀ q : Nat, w6.cell? ⟨gr, q, none⟩ = w.cell? ⟨gr, q, none⟩ := fun q => World.cell?_of_block (w := w) (a := ⟨gr, q, none⟩) hblk
  have hfro : ∀ q : Nat, w6.frozen? ⟨gr, q, none⟩ = w.frozen? ⟨gr, q, none⟩ := fun q => by simp [World.frozen?, hblk]
  have hnew : ∀ (i : Nat) (u : Value) (b : Nat), i ≠ j → V[i]? = some u → u.ownBlock = some b → b ≠ g6 := fun i u b hi hu hb e => by
    subst e
    rcases hat with hat | hat
    · exact hi (h.apart i j u v b hu hv hb hat)
    · have hx : i < R.length := by rw [h.lenR, ← h.lenV]; exact (List.getElem?_eq_some_iff.1 hu).1
      have := ((h.own i _ u (List.getElem?_eq_getElem hx) hu).lt b hb).2
      omega
  refine ⟨by rw [List.length_set]; exact h.lenR, by rw [List.length_set]; exact h.lenV, fun i u hu => ?_, fun q => ?_, ?_, h.far, fun i l' u hl' hu => ?_, fun i k u u' b hu hu' hb hb' => ?_⟩
  · rw [List.getElem?_set] at hu
    by_cases e : j = i
    · subst e
      rw [if_pos rfl, if_pos (by rw [h.lenV]; exact hj)] at hu
      rw [← Option.some.inj hu]
      exact World.cell?_setCell_same _ _ _ ((hcell _).trans (h.cell j v hv))
    · rw [if_neg e] at hu
      rw [World.cell?_setCell_other _ _ _ _ (by intro e2; injection e2 with e3 e4; omega)]
      exact (hcell _).trans (h.cell i u hu)
  · rw [World.frozen?_setCell]
    exact (hfro q).trans (h.free q)
  · have := h.lt
    simp [World.setCell]
    omega
  · rw [List.getElem?_set] at hl' hu
    by_cases e : j = i
    · subst e
      rw [if_pos rfl, if_pos (by rw [h.lenV]; exact hj)] at hu
      rw [if_pos rfl, if_pos (by rw [h.lenR]; exact hj)] at hl'
      rw [← Option.some.inj hu, ← Option.some.inj hl']
      refine ownsRow_setCell_below ?_ (a := ⟨gr, j, none⟩) h.far _
      rw [List.length_append, numv_app]
      exact hown
    · rw [if_neg e] at hu hl'
      refine ownsRow_setCell_below ?_ (a := ⟨gr, j, none⟩) h.far _
      exact own_grown (h.own i l' u hl' hu) hgrow (fun b hb e2 => e (h.apart j i v u b hv hu e2 hb))
  · rw [List.getElem?_set] at hu hu'
    by_cases e : j = i
    · by_cases e' : j = k
      · omega
      · subst e
        rw [if_pos rfl, if_pos (by rw [h.lenV]; exact hj)] at hu
        rw [if_neg e'] at hu'
        rw [← Option.some.inj hu] at hb
        have hb2 : g6 = b := by simpa [Value.ownBlock] using hb
        exact absurd hb2.symm (hnew k u' b (fun e => e' e.symm) hu' hb')
    · rw [if_neg e] at hu
      by_cases e' : j = k
      · subst e'
        rw [if_pos rfl, if_pos (by rw [h.lenV]; exact hj)] at hu'
        rw [← Option.some.inj hu'] at hb'
        have hb2 : g6 = b := by simpa [Value.ownBlock] using hb'
        exact absurd hb2.symm (hnew i u b (fun e2 => e e2.symm) hu hb)
      · rw [if_neg e'] at hu'
        exact h.apart i k u u' b hu hu' hb hb'
/-- A row of the rows is laid anew. -/
theorem RowsR.fresh {base gr n g c j : Nat} {w w1 : World} {R : List (List Int)} {V : List Value} (h : RowsR base w gr n R V) (hj : j < n) (q : Below w.heap.size w w1) (hg : w.heap.size ≤ g) (hown : w1.ownsRow base 3 1 (.slice (some ⟨g, 0, none⟩) 0 c) 0 []) :
    RowsR base (w1.setCell ⟨gr, j, none⟩ (.slice (some ⟨g, 0, none⟩) 0 c)) gr n (R.set j []) (V.set j (.slice (some ⟨g, 0, none⟩) 0 c)) := by
  have h1 := h.below q
  have hnew : ∀ (i : Nat) (u : Value) (b : Nat), V[i]? = some u → u.ownBlock = some b → b ≠ g := fun i u b hu hb e => by
    subst e
    have hx : i < R.length := by rw [h.lenR, ← h.lenV]; exact (List.getElem?_eq_some_iff.1 hu).1
    have := ((h.own i _ u (List.getElem?_eq_getElem hx) hu).lt b hb).2
    omega
  obtain ⟨v, hv⟩ : ∃ v, V[j]? = some v := ⟨V[j]'(by rw [h.lenV]; exact hj), by simp⟩
  refine ⟨by rw [List.length_set]; exact h.lenR, by rw [List.length_set]; exact h.lenV, fun i u hu => ?_, fun q => ?_, ?_, h.far, fun i l' u hl' hu => ?_, fun i k u u' b hu hu' hb hb' => ?_⟩
  · rw [List.getElem?_set] at hu
    by_cases e : j = i
    · subst e
      rw [if_pos rfl, if_pos (by rw [h.lenV]; exact hj)] at hu
      rw [← Option.some.inj hu]
      exact World.cell?_setCell_same _ _ _ (h1.cell j v hv)
    · rw [if_neg e] at hu
      rw [World.cell?_setCell_other _ _ _ _ (by intro e2; injection e2 with e3 e4; omega)]
      exact h1.cell i u hu
  · rw [World.frozen?_setCell]
    exact h1.free q
  · have := h1.lt
    simp [World.setCell]
    omega
  · rw [List.getElem?_set] at hl' hu
    by_cases e : j = i
    · subst e
      rw [if_pos rfl, if_pos (by rw [h.lenV]; exact hj)] at hu
      rw [if_pos rfl, if_pos (by rw [h.lenR]; exact hj)] at hl'
      rw [← Option.some.inj hu, ← Option.some.inj hl']
      exact ownsRow_setCell_below hown (a := ⟨gr, j, none⟩) h.far _
    · rw [if_neg e] at hu hl'
      exact ownsRow_setCell_below (h1.own i l' u hl' hu) (a := ⟨gr, j, none⟩) h.far _
  · rw [List.getElem?_set] at hu hu'
    by_cases e : j = i
    · by_cases e' : j = k
      · omega
      · subst e
        rw [if_pos rfl, if_pos (by rw [h.lenV]; exact hj)] at hu
        rw [if_neg e'] at hu'
        rw [← Option.some.inj hu] at hb
        have hb2 : g = b := by simpa [Value.ownBlock] using hb
        exact absurd hb2.symm (hnew k u' b hu' hb')
    · rw [if_neg e] at hu
      by_cases e' : j = k
      · subst e'
        rw [if_pos rfl, if_pos (by rw [h.lenV]; exact hj)] at hu'
        rw [← Option.some.inj hu'] at hb'
        have hb2 : g = b := by simpa [Value.ownBlock] using hb'
        exact absurd hb2.symm (hnew i u b hu hb)
      · rw [if_neg e'] at hu'
        exact h.apart i k u u' b hu hu' hb hb'
end NetRr
end Go.Proofs.YtgbbpliihglijaaGreat
