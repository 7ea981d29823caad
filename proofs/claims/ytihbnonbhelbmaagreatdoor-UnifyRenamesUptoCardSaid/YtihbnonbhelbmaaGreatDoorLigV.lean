/- A block of one number holds no part of a term, a pair, a literal or a way: it may turn. No conditions. -/
import Derived.Test.YtihbnonbhelbmaaGreatDoorLigW
namespace Go.Proofs.YtihbnonbhelbmaaGreatDoor
open Go Go.RowKit
namespace LigV
open LexM TermM TermI Kit TermN TermU UniK UniM LigP LigQ LigW
/-- The block holds numbers alone. -/
def Dull (w : World) (r : Nat) : Prop := ∀ o u, w.cell? ⟨r, o, none⟩ = some u → ∃ k i, u = .int k i
theorem dull_has {w : World} {r : Nat} {k : IntKind} {i : Int} (h : Has w r #[.int k i]) : Dull w r := fun o u hu => by
  rw [h.cell o] at hu
  match o, hu with
  | 0, hu => simp at hu; exact ⟨k, i, hu.symm⟩
  | o + 1, hu => simp at hu
theorem slin_avoid {ok : Nat → Prop} {w : World} {r : Nat} {l : List Tm} {v : Value} (hd : Dull w r) (h : SlIn ok w l v) : SlIn (fun b => ok b ∧ b ≠ r) w l v := by
  induction h with
  | mk p c l V b o hp hn hc hm h1 h2 ih =>
    refine .mk p c l V b o (fun h => ⟨(hp h).1, (hp h).2, fun e => ?_⟩) hn hc hm h1 ih
    subst e
    obtain ⟨t, ht⟩ : ∃ t, l[0]? = some t := by
      cases l with
      | nil => exact absurd rfl h
      | cons a l => exact ⟨a, rfl⟩
    obtain ⟨k, i, e⟩ := hd _ _ (h1 0 t ht).1
    cases e
theorem row_avoid {α : Type} {K : Kd α} {ok : Nat → Prop} {w : World} {r : Nat} {L : List α} {v : Value} (hd : Dull w r) (hK : ∀ x, K.inn ok w x → K.inn (fun b => ok b ∧ b ≠ r) w x) (hs : ∀ x, ∃ (j : Nat) (u : Value), (K.cells x)[j]? = some u ∧ ∀ k i, u ≠ .int k i)
    (h : RowG K ok w L v) : RowG K (fun b => ok b ∧ b ≠ r) w L v := by
  obtain ⟨p, c, h1, h2, h3, h4, h5⟩ := h
  refine ⟨p, c, h1, h2, h3, fun x hx => hK x (h4 x hx), fun hl => ?_⟩
  obtain ⟨g, o, e1, e2, e3⟩ := h5 hl
  refine ⟨g, o, e1, ⟨e2, fun e => ?_⟩, e3⟩
  subst e
  obtain ⟨x, hx⟩ : ∃ x, L[0]? = some x := ⟨L[0], by simp [hl]⟩
  obtain ⟨j, u, hu, hn⟩ := hs x
  obtain ⟨k, i, e⟩ := hd _ _ (e3 0 x hx j u hu)
  exact hn k i e
theorem pin_avoid {ok : Nat → Prop} {w : World} {r : Nat} {l : List Bd} {v : Value} (hd : Dull w r) (h : PIn ok w l v) : PIn (fun b => ok b ∧ b ≠ r) w l v := by
  obtain ⟨L, e, h⟩ := h
  exact ⟨L, e, row_avoid hd (fun x hx => ⟨slin_avoid hd hx.1, hx.2⟩) (fun x => ⟨0, _, rfl, fun k i e => by cases e⟩) h⟩
theorem lin_avoid {ok : Nat → Prop} {w : World} {r : Nat} {l : List Lt} {v : Value} (hd : Dull w r) (h : LIn ok w l v) : LIn (fun b => ok b ∧ b ≠ r) w l v := by
  obtain ⟨L, e, h⟩ := h
  exact ⟨L, e, row_avoid hd (fun x hx => ⟨slin_avoid hd hx.1, hx.2⟩) (fun x => ⟨0, _, rfl, fun k i e => by cases e⟩) h⟩
theorem rin_avoid {ok : Nat → Prop} {w : World} {r : Nat} {l : List Rl} {v : Value} (hd : Dull w r) (h : RIn ok w l v) : RIn (fun b => ok b ∧ b ≠ r) w l v := by
  obtain ⟨L, e, h⟩ := h
  exact ⟨L, e, row_avoid hd (fun x hx => ⟨slin_avoid hd hx.1, hx.2.1, lin_avoid hd hx.2.2⟩) (fun x => ⟨0, _, rfl, fun k i e => by cases e⟩) h⟩
theorem win_avoid {ok : Nat → Prop} {w : World} {r : Nat} {l : List (List Bd)} {v : Value} (hd : Dull w r) (h : WIn ok w l v) : WIn (fun b => ok b ∧ b ≠ r) w l v := by
  obtain ⟨L, e, p, c, e1, e2, e3, e4, e5⟩ := h
  refine ⟨L, e, p, c, e1, e2, e3, fun x hx => pin_avoid hd (e4 x hx), fun h0 => ?_⟩
  obtain ⟨g, o, a1, a2, a3⟩ := e5 h0
  refine ⟨g, o, a1, ⟨a2, fun e => ?_⟩, a3⟩
  subst e
  obtain ⟨x, hx⟩ : ∃ x, L[0]? = some x := ⟨L[0], by simp [h0]⟩
  obtain ⟨q, d, eq⟩ := (e4 x (List.mem_of_getElem? hx)).form
  obtain ⟨k, i, e⟩ := hd _ _ (a3 0 x hx)
  rw [eq] at e
  cases e
/-- What lies in blocks of a world, the counter's aside, stays while new blocks come and the counter turns. -/
theorem slin_ch2 {r : Nat} {a b : World} {l : List Tm} {v : Value} (h : SlIn (fun k => k < a.heap.size ∧ k ≠ r) a l v) (g : Ch r a b) : SlIn (fun k => k < b.heap.size ∧ k ≠ r) b l v :=
  (h.frame fun _ _ hk => g.cell hk.1 hk.2).weaken fun _ hk => ⟨Nat.lt_of_lt_of_le hk.1 g.size, hk.2⟩
theorem pin_ch2 {r : Nat} {a b : World} {l : List Bd} {v : Value} (h : PIn (fun k => k < a.heap.size ∧ k ≠ r) a l v) (g : Ch r a b) : PIn (fun k => k < b.heap.size ∧ k ≠ r) b l v :=
  (h.keep fun _ _ hk => g.cell hk.1 hk.2).wide fun _ hk => ⟨Nat.lt_of_lt_of_le hk.1 g.size, hk.2⟩
theorem lin_ch2 {r : Nat} {a b : World} {l : List Lt} {v : Value} (h : LIn (fun k => k < a.heap.size ∧ k ≠ r) a l v) (g : Ch r a b) : LIn (fun k => k < b.heap.size ∧ k ≠ r) b l v :=
  (h.keep fun _ _ hk => g.cell hk.1 hk.2).wide fun _ hk => ⟨Nat.lt_of_lt_of_le hk.1 g.size, hk.2⟩
theorem win_ch2 {r : Nat} {a b : World} {l : List (List Bd)} {v : Value} (h : WIn (fun k => k < a.heap.size ∧ k ≠ r) a l v) (g : Ch r a b) : WIn (fun k => k < b.heap.size ∧ k ≠ r) b l v :=
  (h.keep fun _ _ hk => g.cell hk.1 hk.2).wide fun _ hk => ⟨Nat.lt_of_lt_of_le hk.1 g.size, hk.2⟩
/-- The row of ways grows on; the counter turns. -/
theorem own_ch2 {ok0 : Nat → Prop} {r base : Nat} {a b : World} {L : List Wy} {v : Value} (h : OwnW ok0 base a L v) (g : Ch r a b) (hd : Dull a r) (hr : v.ownBlock ≠ some r) : OwnW ok0 base b L v := by
  obtain ⟨h1, ok, h2, h3⟩ := h
  have hl := h1.lt
  refine ⟨⟨h1.1, ?_⟩, fun k => ok k ∧ k ≠ r, fun b hk => ⟨(h2 b hk.1).1, Nat.lt_of_lt_of_le (h2 b hk.1).2.1 g.size, (h2 b hk.1).2.2⟩, fun x hx => (pin_avoid hd (h3 x hx)).keep fun b o hk => g.cell (h2 b hk.1).2.1 hk.2⟩
  rcases h1.2 with h | ⟨k, cap, cur, e1, e2, e3, e4⟩
  · exact Or.inl h
  · exact Or.inr ⟨k, cap, cur, e1, e2, (g.block k (hl k (by rw [e1]; rfl)).2 (fun e => hr (by rw [e1]; exact e))).trans e3, e4⟩
end LigV
end Go.Proofs.YtihbnonbhelbmaaGreatDoor
