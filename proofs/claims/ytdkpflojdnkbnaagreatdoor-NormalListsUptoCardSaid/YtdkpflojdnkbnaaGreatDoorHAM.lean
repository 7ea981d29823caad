/- Texts laid together: LigP; LigG. Their own heads stand before each. -/
import Derived.Test.YtdkpflojdnkbnaaGreatDoorHAE
import Derived.Test.YtdkpflojdnkbnaaGreatDoorHAG
/- Pairs of a name and a term in memory. Made by genlig.py. No conditions. -/
namespace Go.Proofs.YtdkpflojdnkbnaaGreatDoor
open Go Go.RowKit
namespace LigP
open Kit LexM TermM TermI TermU UniM UniK
/-- Pairs. -/
def KP : Kd (Bd × Value) where
  ty := 138
  cells x := [.string x.1.1, .string x.1.2.nm, x.2]
  inn ok w x := SlIn ok w x.1.2.args x.2 ∧ x.1.2.nm.size ≤ maxLen ∧ x.1.1.size ≤ maxLen
  len _ := rfl
  keep h hf := ⟨h.1.frame hf, h.2⟩
  wide h hk := ⟨h.1.weaken hk, h.2⟩
def PIn (ok : Nat → Prop) (w : World) (l : List Bd) (v : Value) : Prop := ∃ L : List (Bd × Value), L.map (·.1) = l ∧ RowG KP ok w L v
theorem PIn.keep {ok : Nat → Prop} {w w' : World} {l : List Bd} {v : Value} (h : PIn ok w l v) (hf : ∀ b o, ok b → w'.cell? ⟨b, o, none⟩ = w.cell? ⟨b, o, none⟩) : PIn ok w' l v := by
  obtain ⟨L, e, h⟩ := h; exact ⟨L, e, h.keep hf⟩
theorem PIn.wide {ok ok' : Nat → Prop} {w : World} {l : List Bd} {v : Value} (h : PIn ok w l v) (hk : ∀ b, ok b → ok' b) : PIn ok' w l v := by
  obtain ⟨L, e, h⟩ := h; exact ⟨L, e, h.wide hk⟩
theorem PIn.form {ok : Nat → Prop} {w : World} {l : List Bd} {v : Value} (h : PIn ok w l v) : ∃ p c, v = .slice p l.length c := by
  obtain ⟨L, rfl, p, c, e, _⟩ := h
  exact ⟨p, c, by rw [e]; simp⟩
theorem PIn.nil (ok : Nat → Prop) (w : World) : PIn ok w [] (.slice none 0 0) := ⟨[], rfl, RowG.nil _ _⟩
theorem PIn.gr {B : Nat} {w w' : World} {l : List Bd} {v : Value} (h : PIn (· < B) w l v) (g : Gr w w') (hB : B ≤ w.heap.size) : PIn (· < B) w' l v := h.keep fun _ _ hb => g.cell (Nat.lt_of_lt_of_le hb hB)
theorem PIn.deep {B B' : Nat} {w w' : World} {l : List Bd} {v : Value} (h : PIn (· < B) w l v) (hb : Below B' w w') (hB : B ≤ B') : PIn (· < B) w' l v := h.keep fun _ _ hlt => hb.cell (p := ⟨_, _, none⟩) (Nat.lt_of_lt_of_le hlt hB)
/-- The pairs of a list, three cells each. -/
def RowP (B : Nat) (w : World) (l : List Bd) (p : Option Addr) : Prop := ∀ k, k < l.length → ∃ t b o q d, l[k]? = some t ∧ p = some ⟨b, o, none⟩ ∧ b < B ∧ w.cell? ⟨b, o + k * 3, none⟩ = some (.string t.1) ∧ w.cell? ⟨b, o + k * 3 + 1, none⟩ = some (.string t.2.nm) ∧
  w.cell? ⟨b, o + k * 3 + 1 + 1, none⟩ = some (.slice q t.2.args.length d) ∧ SlIn (· < B) w t.2.args (.slice q t.2.args.length d) ∧ t.2.nm.size ≤ maxLen ∧ t.1.size ≤ maxLen
theorem PIn.row {B : Nat} {w : World} {l : List Bd} {v : Value} (h : PIn (· < B) w l v) : ∃ p c, v = .slice p l.length c ∧ l.length ≤ c ∧ c ≤ maxLen ∧ RowP B w l p := by
  obtain ⟨L, rfl, p, c, e, h1, h2, h3, h4⟩ := h
  refine ⟨p, c, by rw [e]; simp, by simpa using h1, h2, fun k hk => ?_⟩
  have hk' : k < L.length := by simpa using hk
  obtain ⟨g, o, e1, e2, e3⟩ := h4 (by omega)
  obtain ⟨x, hx⟩ : ∃ x, L[k]? = some x := ⟨L[k], by simp [hk']⟩
  obtain ⟨s1, s2, s3⟩ := h3 x (List.mem_of_getElem? hx)
  obtain ⟨q, d, eq⟩ := s1.form
  refine ⟨x.1, g, o, q, d, by simp [hx], e1, e2, e3 k x hx 0 _ rfl, e3 k x hx 1 _ rfl, ?_, by rw [← eq]; exact s1, s2, s3⟩
  rw [← eq]
  exact e3 k x hx 2 _ rfl
theorem RowP.gr {B : Nat} {w w' : World} {l : List Bd} {p : Option Addr} (h : RowP B w l p) (g : Gr w w') (hB : B ≤ w.heap.size) : RowP B w' l p := fun k hk => by
  obtain ⟨t, b, o, q, d, h1, h2, h3, h4, h5, h6, h7, h8⟩ := h k hk
  exact ⟨t, b, o, q, d, h1, h2, h3, (g.cell (Nat.lt_of_lt_of_le h3 hB)).trans h4, (g.cell (Nat.lt_of_lt_of_le h3 hB)).trans h5, (g.cell (Nat.lt_of_lt_of_le h3 hB)).trans h6, h7.gr g hB, h8⟩
theorem RowP.deep {B B' : Nat} {w w' : World} {l : List Bd} {p : Option Addr} (h : RowP B w l p) (g : Below B' w w') (hB : B ≤ B') : RowP B w' l p := fun k hk => by
  obtain ⟨t, b, o, q, d, h1, h2, h3, h4, h5, h6, h7, h8⟩ := h k hk
  have hb : b < B' := Nat.lt_of_lt_of_le h3 hB
  exact ⟨t, b, o, q, d, h1, h2, h3, (g.cell (p := ⟨b, _, none⟩) hb).trans h4, (g.cell (p := ⟨b, _, none⟩) hb).trans h5, (g.cell (p := ⟨b, _, none⟩) hb).trans h6, h7.deep g hB, h8⟩
theorem Tryz.infoP : (Tryz.prog.info? 138).map (fun i => (i.zero, i.size, i.bytes)) = some (some (.agg #[.string ⟨#[]⟩, .string ⟨#[]⟩, .slice none 0 0]), 3, 56) := by kernel_rfl
end LigP
end Go.Proofs.YtdkpflojdnkbnaaGreatDoor
/- Rows of terms of the call's own, whose lists lie in blocks of a kind or in new ones, none of them the row's; terms and pairs of rows in blocks of any kind. No conditions. -/
namespace Go.Proofs.YtdkpflojdnkbnaaGreatDoor
open Go Go.RowKit
namespace LigG
open LexM TermM TermI Kit TermN TermU UniK UniM UniA UniC UniD UniE LigP
/-- The slice value v is a row of the call's own, from block base on, that holds the terms of L; the lists behind them lie in blocks from base on too, none of them the row's. -/
def OwnA (ok0 : Nat → Prop) (base : Nat) (w : World) (L : List (Tm × Value)) (v : Value) : Prop :=
  w.ownsRow base 24 2 v L.length (flatL L) ∧ ∃ ok : Nat → Prop, (∀ b, ok b → (ok0 b ∨ base ≤ b) ∧ b < w.heap.size ∧ v.ownBlock ≠ some b) ∧ ∀ x ∈ L, SlIn ok w x.1.args x.2 ∧ x.1.nm.size ≤ maxLen
section
variable {ok0 : Nat → Prop} {base : Nat} {w w' : World} {L : List (Tm × Value)} {v : Value}
theorem OwnA.nil (ok0 : Nat → Prop) (base : Nat) (w : World) : OwnA ok0 base w [] (.slice none 0 0) :=
  ⟨⟨rfl, Or.inl ⟨rfl, rfl⟩⟩, fun _ => False, fun b h => h.elim, fun x h => by simp at h⟩
theorem OwnA.form (h : OwnA ok0 base w L v) : ∃ a c, v = .slice a L.length c := by
  rcases h.1.2 with ⟨e, hz⟩ | ⟨g, cap, cur, e, _⟩
  · exact ⟨none, 0, by rw [e, hz]⟩
  · exact ⟨_, cap, e⟩
theorem OwnA.below (h : OwnA ok0 base w L v) (hb : Below w.heap.size w w') : OwnA ok0 base w' L v := by
  obtain ⟨h1, ok, h2, h3⟩ := h
  have hl := h1.lt
  refine ⟨⟨h1.1, ?_⟩, ok, fun b hk => ⟨(h2 b hk).1, Nat.lt_of_lt_of_le (h2 b hk).2.1 hb.size, (h2 b hk).2.2⟩, fun x hx => ⟨(h3 x hx).1.frame fun b o hk => hb.cell (p := ⟨b, o, none⟩) (h2 b hk).2.1, (h3 x hx).2⟩⟩
  rcases h1.2 with h | ⟨g, cap, cur, e1, e2, e3, e4⟩
  · exact Or.inl h
  · exact Or.inr ⟨g, cap, cur, e1, e2, (hb.block g (hl g (by rw [e1]; rfl)).2).trans e3, e4⟩
theorem OwnA.far (h : OwnA ok0 base w L v) {p : Addr} (hp : p.block < base) (hp2 : ¬ ok0 p.block) (u : Value) : OwnA ok0 base (w.setCell p u) L v := by
  obtain ⟨h1, ok, h2, h3⟩ := h
  refine ⟨ownsRow_setCell_below h1 hp u, ok, fun b hk => ⟨(h2 b hk).1, by simpa using (h2 b hk).2.1, (h2 b hk).2.2⟩, fun x hx => ⟨(h3 x hx).1.frame fun b o hk => ?_, (h3 x hx).2⟩⟩
  exact World.cell?_of_block (w := w) (a := ⟨b, o, none⟩) (Below.heap_setCell _ _ _ _ (show b ≠ p.block from fun e => (h2 b hk).1.elim (fun h => hp2 (e ▸ h)) (fun h => by omega)))
theorem OwnA.add {w2 w3 : World} {o : Obj} {g cap : Nat} {t : Tm} {v1 : Value} {ok' : Nat → Prop} (h : OwnA ok0 base w2 L v) (hs : SlIn ok' w2 t.args v1) (hn : t.nm.size ≤ maxLen) (hok : ∀ b, ok' b → (ok0 b ∨ base ≤ b) ∧ b < w2.heap.size ∧ v.ownBlock ≠ some b)
    (hown : w3.ownsRow base 24 2 (.slice (some ⟨g, 0, none⟩) (L.length + 1) cap) (L.length + 1) (flatL L ++ [.string t.nm, v1])) (hgrow : (w2.alloc o).grownBy w3 v.ownBlock) (hat : v.ownBlock = some g ∨ g = w2.heap.size + 1) :
    OwnA ok0 base w3 (L ++ [(t, v1)]) (.slice (some ⟨g, 0, none⟩) (L.length + 1) cap) := by
  obtain ⟨h1, ok, h2, h3⟩ := h
  have hsz : w2.heap.size + 1 ≤ w3.heap.size := by have := hgrow.size; simpa using this
  have fr : ∀ b o, b < w2.heap.size → v.ownBlock ≠ some b → w3.cell? ⟨b, o, none⟩ = w2.cell? ⟨b, o, none⟩ := fun b o hb hne => by
    refine World.cell?_of_block (w := w2) (a := ⟨b, o, none⟩) ?_
    exact (hgrow.block b (by simp; omega) (fun e => hne e.symm)).trans (Below.heap_alloc _ _ _ hb)
  refine ⟨by rw [List.length_append, flatL_snoc]; exact hown, fun b => ok b ∨ ok' b, fun b hk => ?_, fun x hx => ?_⟩
  · have hb2 : (ok0 b ∨ base ≤ b) ∧ b < w2.heap.size ∧ v.ownBlock ≠ some b := by
      rcases hk with hk | hk
      · exact h2 b hk
      · exact hok b hk
    refine ⟨hb2.1, by omega, fun e => ?_⟩
    have e' : g = b := by simpa [Value.ownBlock] using e
    rcases hat with h | h
    · exact hb2.2.2 (by rw [h, e'])
    · omega
  · rcases List.mem_append.1 hx with hx | hx
    · exact ⟨((h3 x hx).1.frame fun b o hk => fr b o (h2 b hk).2.1 (h2 b hk).2.2).weaken fun b hk => Or.inl hk, (h3 x hx).2⟩
    · obtain rfl := List.mem_singleton.1 hx
      exact ⟨(hs.frame fun b o hk => fr b o (hok b hk).2.1 (hok b hk).2.2).weaken fun b hk => Or.inr hk, hn⟩
theorem OwnA.slin (h : OwnA ok0 base w L v) : SlIn (fun b => ok0 b ∨ (base ≤ b ∧ b < w.heap.size)) w (L.map (·.1)) v := by
  obtain ⟨h1, ok, h2, h3⟩ := h
  have hl := h1.lt
  have key : ∀ (i : Nat) (t : Tm), (L.map (·.1))[i]? = some t → ∃ x : Tm × Value, L[i]? = some x ∧ x.1 = t := by
    intro i t ht
    rw [List.getElem?_map] at ht
    obtain ⟨x, a, b⟩ := Option.map_eq_some_iff.1 ht
    exact ⟨x, a, b⟩
  rcases h1.2 with ⟨rfl, hz⟩ | ⟨g, cap, cur, rfl, e2, e3, e4, e5, e6, e7⟩
  · have : L = [] := List.eq_nil_of_length_eq_zero hz
    subst this
    exact SlIn.none _ _
  · have hm : (L.map (·.1)).length = L.length := by simp
    rw [← hm]
    refine .mk _ cap _ (fun i => (L.getD i (default, undef)).2) g 0 (fun _ => ⟨rfl, Or.inr (hl g rfl)⟩) (fun h => by cases h) (by rw [hm]; exact e4) e5 (fun i t ht => ?_) (fun i t ht => ?_)
    · obtain ⟨x, hx, rfl⟩ := key i t ht
      have hi : i < L.length := (List.getElem?_eq_some_iff.1 hx).1
      obtain ⟨f1, f2⟩ := flatL_get L i x hx
      rw [Nat.zero_add]
      exact ⟨(h1.cellAt _ (by omega)).trans f1, by rw [h1.cellAt _ (by omega), f2]; simp [List.getD, hx], (h3 x (List.mem_of_getElem? hx)).2⟩
    · obtain ⟨x, hx, rfl⟩ := key i t ht
      have := (h3 x (List.mem_of_getElem? hx)).1.weaken fun b hk => (show ok0 b ∨ (base ≤ b ∧ b < w.heap.size) from (h2 b hk).1.imp id fun h => ⟨h, (h2 b hk).2.1⟩)
      simpa [List.getD, hx] using this
end
/-- The terms of a list, two cells each, in blocks of any kind. -/
theorem slin_at {ok : Nat → Prop} {w : World} {l : List Tm} {p : Option Addr} {n c : Nat} (h : SlIn ok w l (.slice p n c)) (k : Nat) (hk : k < l.length) : ∃ t g o q d, l[k]? = some t ∧ p = some ⟨g, o, none⟩ ∧ ok g ∧ w.cell? ⟨g, o + k * 2, none⟩ = some (.string t.nm) ∧
    w.cell? ⟨g, o + k * 2 + 1, none⟩ = some (.slice q t.args.length d) ∧ SlIn ok w t.args (.slice q t.args.length d) ∧ t.nm.size ≤ maxLen := by
  cases h with
  | mk p c l V b o hp hn hc hm h1 h2 =>
    obtain ⟨t, ht⟩ : ∃ t, l[k]? = some t := ⟨l[k], by simp [hk]⟩
    obtain ⟨a1, a2, a3⟩ := h1 k t ht
    have a4 := h2 k t ht
    obtain ⟨q, d, eq⟩ := a4.form
    have hb := hp (ne_of_get ht)
    exact ⟨t, b, o, q, d, ht, hb.1, hb.2, a1, by rw [← eq]; exact a2, by rw [← eq]; exact a4, a3⟩
/-- The pairs of a list, three cells each, in blocks of any kind. -/
theorem pin_at {ok : Nat → Prop} {w : World} {l : List Bd} {p : Option Addr} {n c : Nat} (h : PIn ok w l (.slice p n c)) (k : Nat) (hk : k < l.length) : ∃ t b o q d, l[k]? = some t ∧ p = some ⟨b, o, none⟩ ∧ ok b ∧ w.cell? ⟨b, o + k * 3, none⟩ = some (.string t.1) ∧ w.cell? ⟨b, o + k * 3 + 1, none⟩ = some (.string t.2.nm) ∧
    w.cell? ⟨b, o + k * 3 + 1 + 1, none⟩ = some (.slice q t.2.args.length d) ∧ SlIn ok w t.2.args (.slice q t.2.args.length d) ∧ t.2.nm.size ≤ maxLen ∧ t.1.size ≤ maxLen := by
  obtain ⟨L, rfl, p', c', e, h1, h2, h3, h4⟩ := h
  cases e
  have hk' : k < L.length := by simpa using hk
  obtain ⟨g, o, e1, e2, e3⟩ := h4 (by omega)
  obtain ⟨x, hx⟩ : ∃ x, L[k]? = some x := ⟨L[k], by simp [hk']⟩
  obtain ⟨s1, s2, s3⟩ := h3 x (List.mem_of_getElem? hx)
  obtain ⟨q, d, eq⟩ := s1.form
  refine ⟨x.1, g, o, q, d, by simp [hx], e1, e2, e3 k x hx 0 _ rfl, e3 k x hx 1 _ rfl, ?_, by rw [← eq]; exact s1, s2, s3⟩
  rw [← eq]
  exact e3 k x hx 2 _ rfl
end LigG
end Go.Proofs.YtdkpflojdnkbnaaGreatDoor
