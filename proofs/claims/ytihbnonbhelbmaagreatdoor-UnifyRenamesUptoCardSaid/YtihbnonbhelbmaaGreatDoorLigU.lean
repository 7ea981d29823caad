/- ways of gameplayerplain: the ways under which literals are among atoms. Conditions: at most eight literals of at most twenty parts, at most a thousand good atoms, a counter of at most a million. -/
import Derived.Test.YtihbnonbhelbmaaGreatDoorLigV
import Derived.Test.YtihbnonbhelbmaaGreatDoorLigE
namespace Go.Proofs.YtihbnonbhelbmaaGreatDoor
open Go Go.RowKit
namespace LigU
open Kit LexM TermM TermI TermN TermU UniM UniK UniA UniD UniE UniG UniR LigM LigP LigD LigQ LigE LigW LigV
/-- What ways leaves: ways in blocks of the kind that was given, or in new ones. -/
def WQ (ok : Nat → Prop) (N K Z wk : Nat) (w : World) (e : Ending) (w' : World) : Prop :=
  ∃ (v : Value) (f : Bool), e = .returned (.tuple #[v, .bool f]) ∧
    (f = true → ∃ (qs : List (List Bd)) (lf : Int), WIn (fun b => ok b ∨ (w.heap.size ≤ b ∧ b < w'.heap.size)) w' qs v ∧ qs.length ≤ 5001 ∧ (∀ s ∈ qs, GP N K Z s ∧ s.length ≤ 160) ∧ 0 ≤ lf ∧ lf ≤ 1000000 ∧ Has w' wk #[.int .i64 lf]) ∧ Ch wk w w'
/-- A row of terms anywhere but in the counter's block, whose lists lie in blocks of a kind. -/
def AtR (ok : Nat → Prop) (wk : Nat) (w : World) (l : List Tm) (v : Value) : Prop := ∃ p c, v = .slice p l.length c ∧ ∀ k, k < l.length → ∃ t g o q d, l[k]? = some t ∧ p = some ⟨g, o, none⟩ ∧ (g < w.heap.size ∧ g ≠ wk) ∧ w.cell? ⟨g, o + k * 2, none⟩ = some (.string t.nm) ∧
    w.cell? ⟨g, o + k * 2 + 1, none⟩ = some (.slice q t.args.length d) ∧ SlIn ok w t.args (.slice q t.args.length d) ∧ t.nm.size ≤ maxLen
theorem AtR.row {ok : Nat → Prop} {wk : Nat} {w : World} {l : List Tm} {p : Option Addr} {n c : Nat} (h : AtR ok wk w l (.slice p n c)) : ∀ k, k < l.length → ∃ t g o q d, l[k]? = some t ∧ p = some ⟨g, o, none⟩ ∧ (g < w.heap.size ∧ g ≠ wk) ∧ w.cell? ⟨g, o + k * 2, none⟩ = some (.string t.nm) ∧
    w.cell? ⟨g, o + k * 2 + 1, none⟩ = some (.slice q t.args.length d) ∧ SlIn ok w t.args (.slice q t.args.length d) ∧ t.nm.size ≤ maxLen := by
  obtain ⟨p', c', e, h⟩ := h
  cases e
  exact h
theorem AtR.ch {ok : Nat → Prop} {wk : Nat} {a b : World} {l : List Tm} {v : Value} (h : AtR ok wk a l v) (g : Ch wk a b) (hok : ∀ k, ok k → k < a.heap.size ∧ k ≠ wk) : AtR ok wk b l v := by
  obtain ⟨p, c, e, h⟩ := h
  refine ⟨p, c, e, fun k hk => ?_⟩
  obtain ⟨t, b1, o, q, d, h1, h2, h3, h4, h5, h6, h7⟩ := h k hk
  exact ⟨t, b1, o, q, d, h1, h2, ⟨Nat.lt_of_lt_of_le h3.1 g.size, h3.2⟩, (g.cell h3.1 h3.2).trans h4, (g.cell h3.1 h3.2).trans h5, h6.frame fun b o hb => g.cell (hok b hb).1 (hok b hb).2, h7⟩
/-- The literals of a list, three cells each. -/
theorem lin_row {ok : Nat → Prop} {w : World} {l : List Lt} {p : Option Addr} {n c : Nat} (h : LIn ok w l (.slice p n c)) (k : Nat) (hk : k < l.length) : ∃ x g o q d, l[k]? = some x ∧ p = some ⟨g, o, none⟩ ∧ ok g ∧ w.cell? ⟨g, o + k * 3, none⟩ = some (.bool x.1) ∧ w.cell? ⟨g, o + k * 3 + 1, none⟩ = some (.string x.2.nm) ∧
    w.cell? ⟨g, o + k * 3 + 1 + 1, none⟩ = some (.slice q x.2.args.length d) ∧ SlIn ok w x.2.args (.slice q x.2.args.length d) ∧ x.2.nm.size ≤ maxLen := by
  obtain ⟨L, rfl, p', c', e, h1, h2, h3, h4⟩ := h
  cases e
  have hk' : k < L.length := by simpa using hk
  obtain ⟨g, o, e1, e2, e3⟩ := h4 (by omega)
  obtain ⟨x, hx⟩ : ∃ x, L[k]? = some x := ⟨L[k], by simp [hk']⟩
  obtain ⟨s1, s2⟩ := h3 x (List.mem_of_getElem? hx)
  obtain ⟨q, d, eq⟩ := s1.form
  refine ⟨x.1, g, o, q, d, by simp [hx], e1, e2, e3 k x hx 0 _ rfl, e3 k x hx 1 _ rfl, ?_, by rw [← eq]; exact s1, s2⟩
  rw [← eq]
  exact e3 k x hx 2 _ rfl
theorem slin_row {ok : Nat → Prop} {w : World} {l : List Tm} {p : Option Addr} {n c : Nat} (h : SlIn ok w l (.slice p n c)) (k : Nat) (hk : k < l.length) : ∃ t g o q d, l[k]? = some t ∧ p = some ⟨g, o, none⟩ ∧ ok g ∧ w.cell? ⟨g, o + k * 2, none⟩ = some (.string t.nm) ∧
    w.cell? ⟨g, o + k * 2 + 1, none⟩ = some (.slice q t.args.length d) ∧ SlIn ok w t.args (.slice q t.args.length d) ∧ t.nm.size ≤ maxLen := by
  cases h with
  | mk p c l V b o hp hn hc hm h1 h2 =>
    obtain ⟨t, ht⟩ : ∃ t, l[k]? = some t := ⟨l[k], by simp [hk]⟩
    obtain ⟨a1, a2, a3⟩ := h1 k t ht
    have a4 := h2 k t ht
    obtain ⟨q, d, eq⟩ := a4.form
    have hb := hp (ne_of_get ht)
    exact ⟨t, b, o, q, d, ht, hb.1, hb.2, a1, by rw [← eq]; exact a2, by rw [← eq]; exact a4, a3⟩
theorem win_row {ok : Nat → Prop} {w : World} {l : List (List Bd)} {p : Option Addr} {n c : Nat} (h : WIn ok w l (.slice p n c)) (k : Nat) (hk : k < l.length) : ∃ s g o q d, l[k]? = some s ∧ p = some ⟨g, o, none⟩ ∧ ok g ∧ w.cell? ⟨g, o + k, none⟩ = some (.slice q s.length d) ∧ PIn ok w s (.slice q s.length d) := by
  obtain ⟨L, rfl, p', c', e, h1, h2, h3, h4⟩ := h
  cases e
  have hk' : k < L.length := by simpa using hk
  obtain ⟨g, o, e1, e2, e3⟩ := h4 (by omega)
  obtain ⟨x, hx⟩ : ∃ x, L[k]? = some x := ⟨L[k], by simp [hk']⟩
  have hp := h3 x (List.mem_of_getElem? hx)
  obtain ⟨q, d, eq⟩ := hp.form
  exact ⟨x.1, g, o, q, d, by simp [hx], e1, e2, by rw [← eq]; exact e3 k x hx, by rw [← eq]; exact hp⟩
/-- The first row of ways: one way without pairs. -/
theorem win_one (ok : Nat → Prop) (w : World) : WIn (fun b => ok b ∨ (w.heap.size ≤ b ∧ b < (w.alloc (.cells #[.slice none 0 0] 116)).heap.size)) (w.alloc (.cells #[.slice none 0 0] 116)) [[]] (.slice (some ⟨w.heap.size, 0, none⟩) 1 1) := by
  refine ⟨[([], .slice none 0 0)], rfl, _, 1, rfl, Nat.le_refl _, by unfold maxLen; omega, fun x hx => ?_, fun _ => ⟨w.heap.size, 0, rfl, Or.inr ⟨Nat.le_refl _, by simp⟩, fun i x hx => ?_⟩⟩
  · obtain rfl := List.mem_singleton.1 hx
    exact PIn.nil _ _
  · match i, hx with
    | 0, hx =>
      simp at hx
      subst hx
      exact (Has.new w 116 #[.slice none 0 0]).cell 0
    | i + 1, hx => simp at hx
end LigU
end Go.Proofs.YtihbnonbhelbmaaGreatDoor
