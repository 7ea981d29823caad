/- Pairs of a name and a term in memory. Made by genlig.py. No conditions. -/
import Derived.Test.YtihbnonbhelbmaaGreatDoorUniK
namespace Go.Proofs.YtihbnonbhelbmaaGreatDoor
open Go Go.RowKit
namespace LigP
open Kit LexM TermM TermI TermU UniM UniK
/-- Pairs. -/
def KP : Kd (Bd × Value) where
  ty := 142
  cells x := [.string x.1.1, .string x.1.2.nm, x.2]
  inn ok w x := SlIn ok w x.1.2.args x.2 ∧ x.1.2.nm.size ≤ maxLen ∧ x.1.1.size ≤ maxLen
  len _ := rfl
  keep h hf := ⟨h.1.frame hf, h.2⟩
  wide h hk := ⟨h.1.weaken hk, h.2⟩
def PIn (ok : Nat → Prop) (w : World) (l : List Bd) (v : Value) : Prop := ∃ L : List (Bd × Value), L.map (·.1) = l ∧ RowG KP ok w L v
theorem PIn.keep {ok : Nat → Prop} {w w' : World} {l : List Bd} {v : Value} (h : PIn ok w l v) (hf : ∀ b o, ok b → w'.cell? ⟨b, o, none⟩ = w.cell? ⟨b, o, none⟩) : PIn ok w' l v := by
  obtain ⟨L, e, h⟩ := h; exact ⟨L, e, h.keep hf⟩
theorem PIn.wide {ok ok' : Nat → Prop} {w : World} {l : List Bd} {v : Value} (h : PIn ok w l v) (hk : ∀ b, ok b → ok' b) : PIn ok' w l v := by
  obtain ⟨L, e, h⟩ := h; exact ⟨L, e, h.wide hk⟩
theorem PIn.form {ok : Nat → Prop} {w : World} {l : List Bd} {v : Value} (h : PIn ok w l v) : ∃ p c, v = .slice p l.length c := by
  obtain ⟨L, rfl, p, c, e, _⟩ := h
  exact ⟨p, c, by rw [e]; simp⟩
theorem PIn.nil (ok : Nat → Prop) (w : World) : PIn ok w [] (.slice none 0 0) := ⟨[], rfl, RowG.nil _ _⟩
theorem PIn.gr {B : Nat} {w w' : World} {l : List Bd} {v : Value} (h : PIn (· < B) w l v) (g : Gr w w') (hB : B ≤ w.heap.size) : PIn (· < B) w' l v := h.keep fun _ _ hb => g.cell (Nat.lt_of_lt_of_le hb hB)
theorem PIn.deep {B B' : Nat} {w w' : World} {l : List Bd} {v : Value} (h : PIn (· < B) w l v) (hb : Below B' w w') (hB : B ≤ B') : PIn (· < B) w' l v := h.keep fun _ _ hlt => hb.cell (p := ⟨_, _, none⟩) (Nat.lt_of_lt_of_le hlt hB)
/-- The pairs of a list, three cells each. -/
def RowP (B : Nat) (w : World) (l : List Bd) (p : Option Addr) : Prop := ∀ k, k < l.length → ∃ t b o q d, l[k]? = some t ∧ p = some ⟨b, o, none⟩ ∧ b < B ∧ w.cell? ⟨b, o + k * 3, none⟩ = some (.string t.1) ∧ w.cell? ⟨b, o + k * 3 + 1, none⟩ = some (.string t.2.nm) ∧
  w.cell? ⟨b, o + k * 3 + 1 + 1, none⟩ = some (.slice q t.2.args.length d) ∧ SlIn (· < B) w t.2.args (.slice q t.2.args.length d) ∧ t.2.nm.size ≤ maxLen ∧ t.1.size ≤ maxLen
theorem PIn.row {B : Nat} {w : World} {l : List Bd} {v : Value} (h : PIn (· < B) w l v) : ∃ p c, v = .slice p l.length c ∧ l.length ≤ c ∧ c ≤ maxLen ∧ RowP B w l p := by
  obtain ⟨L, rfl, p, c, e, h1, h2, h3, h4⟩ := h
  refine ⟨p, c, by rw [e]; simp, by simpa using h1, h2, fun k hk => ?_⟩
  have hk' : k < L.length := by simpa using hk
  obtain ⟨g, o, e1, e2, e3⟩ := h4 (by omega)
  obtain ⟨x, hx⟩ : ∃ x, L[k]? = some x := ⟨L[k], by simp [hk']⟩
  obtain ⟨s1, s2, s3⟩ := h3 x (List.mem_of_getElem? hx)
  obtain ⟨q, d, eq⟩ := s1.form
  refine ⟨x.1, g, o, q, d, by simp [hx], e1, e2, e3 k x hx 0 _ rfl, e3 k x hx 1 _ rfl, ?_, by rw [← eq]; exact s1, s2, s3⟩
  rw [← eq]
  exact e3 k x hx 2 _ rfl
theorem RowP.gr {B : Nat} {w w' : World} {l : List Bd} {p : Option Addr} (h : RowP B w l p) (g : Gr w w') (hB : B ≤ w.heap.size) : RowP B w' l p := fun k hk => by
  obtain ⟨t, b, o, q, d, h1, h2, h3, h4, h5, h6, h7, h8⟩ := h k hk
  exact ⟨t, b, o, q, d, h1, h2, h3, (g.cell (Nat.lt_of_lt_of_le h3 hB)).trans h4, (g.cell (Nat.lt_of_lt_of_le h3 hB)).trans h5, (g.cell (Nat.lt_of_lt_of_le h3 hB)).trans h6, h7.gr g hB, h8⟩
theorem RowP.deep {B B' : Nat} {w w' : World} {l : List Bd} {p : Option Addr} (h : RowP B w l p) (g : Below B' w w') (hB : B ≤ B') : RowP B w' l p := fun k hk => by
  obtain ⟨t, b, o, q, d, h1, h2, h3, h4, h5, h6, h7, h8⟩ := h k hk
  have hb : b < B' := Nat.lt_of_lt_of_le h3 hB
  exact ⟨t, b, o, q, d, h1, h2, h3, (g.cell (p := ⟨b, _, none⟩) hb).trans h4, (g.cell (p := ⟨b, _, none⟩) hb).trans h5, (g.cell (p := ⟨b, _, none⟩) hb).trans h6, h7.deep g hB, h8⟩
theorem Tryz.infoP : (Tryz.prog.info? 142).map (fun i => (i.zero, i.size, i.bytes)) = some (some (.agg #[.string ⟨#[]⟩, .string ⟨#[]⟩, .slice none 0 0]), 3, 56) := by kernel_rfl
end LigP
end Go.Proofs.YtihbnonbhelbmaaGreatDoor
