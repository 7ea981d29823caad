/- Rows of elements of three cells in memory (literals, rules, bindings), with lists behind them; for seats without the parser. Made by genunik.py. No conditions. -/
import Derived.Test.YtihbnonbhelbmaaGreatDoorTermI
import Derived.Test.YtihbnonbhelbmaaGreatDoorTermU
import Derived.Test.YtihbnonbhelbmaaGreatDoorUniM
import Derived.WalkSmall
import Derived.WalkLawsBesides
import Derived.Laws.ResultCell
namespace Go.Proofs.YtihbnonbhelbmaaGreatDoor
open Go Go.RowKit
namespace UniK
open Kit LexM TermM TermI TermU UniM
abbrev Lt := Bool × Tm
abbrev Rl := Tm × List Lt
/-- Of what was there only block r may have turned. -/
abbrev Ch (r : Nat) (a b : World) : Prop := a.grownBy b (some r)
theorem Ch.refl (r : Nat) (w : World) : Ch r w w := ⟨rfl, rfl, rfl, Nat.le_refl _, fun _ _ _ => rfl⟩
theorem Ch.trans {r : Nat} {a b c : World} (h : Ch r a b) (k : Ch r b c) : Ch r a c :=
  ⟨World.grownBy.os k |>.trans h.os, k.tape.trans h.tape, k.output.trans h.output, Nat.le_trans h.size k.size, fun i hi hr => (k.block i (Nat.lt_of_lt_of_le hi h.size) hr).trans (h.block i hi hr)⟩
theorem Ch.of {r : Nat} {a b : World} (h : Below a.heap.size a b) : Ch r a b := ⟨h.os, h.tape, h.output, h.size, fun i hi _ => h.block i hi⟩
theorem Ch.below {r : Nat} {a b c : World} (h : Ch r a b) (k : Below b.heap.size b c) : Ch r a c := h.trans (Ch.of k)
theorem Ch.put {r : Nat} {a b : World} (h : Ch r a b) {p : Addr} (hp : p.block = r ∨ a.heap.size ≤ p.block) (u : Value) : Ch r a (b.setCell p u) := by
  refine ⟨h.os, h.tape, h.output, Nat.le_trans h.size (by simp [World.setCell]), fun i hi hr => (Below.heap_setCell _ _ _ _ (fun e => ?_)).trans (h.block i hi hr)⟩
  rcases hp with hp | hp
  · exact hr (by rw [e, hp])
  · omega
theorem Ch.alloc {r : Nat} {a b : World} (h : Ch r a b) (o : Obj) : Ch r a (b.alloc o) := h.below (below_alloc b o)
theorem Ch.grown {r : Nat} {a b c : World} {row : Option Nat} (h : Ch r a b) (hg : b.grownBy c row) (hr : ∀ k, row = some k → a.heap.size ≤ k) : Ch r a c :=
  ⟨hg.os.trans h.os, hg.tape.trans h.tape, hg.output.trans h.output, Nat.le_trans h.size hg.size, fun i hi hne => (hg.block i (Nat.lt_of_lt_of_le hi h.size) (fun e => by have := hr i e.symm; omega)).trans (h.block i hi hne)⟩
theorem Ch.cell {r : Nat} {a b : World} (h : Ch r a b) {g o : Nat} (hg : g < a.heap.size) (hne : g ≠ r) : b.cell? ⟨g, o, none⟩ = a.cell? ⟨g, o, none⟩ :=
  World.cell?_of_block (w := a) (a := ⟨g, o, none⟩) (h.block g hg (fun e => hne (Option.some.inj e)))
theorem Ch.has {r : Nat} {a b : World} {g : Nat} {cs : Array Value} (h : Ch r a b) (k : Has a g cs) (hne : g ≠ r) : Has b g cs := by
  have hl := k.lt
  obtain ⟨t, k⟩ := k
  exact ⟨t, (h.block g hl (fun e => hne (Option.some.inj e))).trans k⟩
theorem Ch.toBelow {r B : Nat} {a b : World} (h : Ch r a b) (hB : B ≤ r) (hs : B ≤ a.heap.size) : Below B a b :=
  ⟨h.os, h.tape, h.output, h.size, fun i hi => h.block i (by omega) (fun e => by have := Option.some.inj e; omega)⟩
/-- Terms that lie in new blocks stay. -/
theorem slin_ch {r lo : Nat} {a b : World} {l : List Tm} {v : Value} (h : SlIn (fun k => lo ≤ k ∧ k < a.heap.size) a l v) (g : Ch r a b) (hr : r < lo) : SlIn (fun k => lo ≤ k ∧ k < b.heap.size) b l v :=
  (h.frame fun k _ hk => g.cell hk.2 (by omega)).weaken fun k hk => ⟨hk.1, Nat.lt_of_lt_of_le hk.2 g.size⟩
theorem own_ch {r base : Nat} {a b : World} {L : List (Tm × Value)} {v : Value} (h : Own base a L v) (g : Ch r a b) (hr : r < base) : Own base b L v := by
  obtain ⟨h1, ok, h2, h3⟩ := h
  have hl := h1.lt
  refine ⟨⟨h1.1, ?_⟩, ok, fun b hk => ⟨(h2 b hk).1, Nat.lt_of_lt_of_le (h2 b hk).2.1 g.size, (h2 b hk).2.2⟩, fun x hx => ⟨(h3 x hx).1.frame fun b o hk => g.cell (h2 b hk).2.1 (by have := (h2 b hk).1; omega), (h3 x hx).2⟩⟩
  rcases h1.2 with h | ⟨k, cap, cur, e1, e2, e3, e4⟩
  · exact Or.inl h
  · exact Or.inr ⟨k, cap, cur, e1, e2, (g.block k (hl k (by rw [e1]; rfl)).2 (fun e => by have := Option.some.inj e; omega)).trans e3, e4⟩
/-- A kind of elements of three cells. -/
structure Kd (α : Type) where
  ty : TypeId
  cells : α → List Value
  inn : (Nat → Prop) → World → α → Prop
  len : ∀ x, (cells x).length = 3
  keep : ∀ {ok : Nat → Prop} {w w' : World} {x : α}, inn ok w x → (∀ b o, ok b → w'.cell? ⟨b, o, none⟩ = w.cell? ⟨b, o, none⟩) → inn ok w' x
  wide : ∀ {ok ok' : Nat → Prop} {w : World} {x : α}, inn ok w x → (∀ b, ok b → ok' b) → inn ok' w x
def Kd.flat {α : Type} (K : Kd α) (L : List α) : List Value := L.flatMap K.cells
section
variable {α : Type} {K : Kd α}
theorem flat_app (a b : List α) : K.flat (a ++ b) = K.flat a ++ K.flat b := by simp [Kd.flat]
theorem flat_one (a : α) : K.flat [a] = K.cells a := by simp [Kd.flat]
theorem flat_len (L : List α) : (K.flat L).length = L.length * 3 := by
  induction L with
  | nil => rfl
  | cons a L ih =>
    have := K.len a
    simp only [Kd.flat, List.flatMap_cons, List.length_append, List.length_cons] at ih ⊢
    omega
theorem flat_get : ∀ (L : List α) (i : Nat) (x : α), L[i]? = some x → ∀ (j : Nat) (u : Value), (K.cells x)[j]? = some u → (K.flat L)[i * 3 + j]? = some u
  | [], i, x, h => by simp at h
  | a :: L, 0, x, h => by
    intro j u hu
    simp at h
    subst h
    have hj := (List.getElem?_eq_some_iff.1 hu).1
    simp only [Kd.flat, List.flatMap_cons]
    rw [List.getElem?_append_left (by omega), show 0 * 3 + j = j by omega]
    exact hu
  | a :: L, i + 1, x, h => by
    intro j u hu
    have ih := flat_get L i x (by simpa using h) j u hu
    have hl := K.len a
    simp only [Kd.flat, List.flatMap_cons] at ih ⊢
    rw [List.getElem?_append_right (by omega), show (i + 1) * 3 + j - (K.cells a).length = i * 3 + j by omega]
    exact ih
/-- A row of the call's own that holds the elements; what is behind them lies in other blocks from base on. -/
def OwnG (K : Kd α) (base : Nat) (w : World) (L : List α) (v : Value) : Prop :=
  w.ownsRow base K.ty 3 v L.length (K.flat L) ∧ ∃ ok : Nat → Prop, (∀ b, ok b → base ≤ b ∧ b < w.heap.size ∧ v.ownBlock ≠ some b) ∧ ∀ x ∈ L, K.inn ok w x
/-- A slice value that holds the elements in blocks of a kind. -/
def RowG (K : Kd α) (ok : Nat → Prop) (w : World) (L : List α) (v : Value) : Prop :=
  ∃ p c, v = .slice p L.length c ∧ L.length ≤ c ∧ c ≤ maxLen ∧ (∀ x ∈ L, K.inn ok w x) ∧ (0 < L.length → ∃ g o, p = some ⟨g, o, none⟩ ∧ ok g ∧ ∀ i x, L[i]? = some x → ∀ j u, (K.cells x)[j]? = some u → w.cell? ⟨g, o + i * 3 + j, none⟩ = some u)
variable {ok ok' : Nat → Prop} {base : Nat} {w w' : World} {L : List α} {v : Value}
theorem RowG.nil (ok : Nat → Prop) (w : World) : RowG K ok w [] (.slice none 0 0) := ⟨none, 0, rfl, Nat.le_refl _, Nat.zero_le _, fun x h => by simp at h, fun h => by simp at h⟩
theorem RowG.keep (h : RowG K ok w L v) (hf : ∀ b o, ok b → w'.cell? ⟨b, o, none⟩ = w.cell? ⟨b, o, none⟩) : RowG K ok w' L v := by
  obtain ⟨p, c, h1, h2, h3, h4, h5⟩ := h
  refine ⟨p, c, h1, h2, h3, fun x hx => K.keep (h4 x hx) hf, fun hl => ?_⟩
  obtain ⟨g, o, e1, e2, e3⟩ := h5 hl
  exact ⟨g, o, e1, e2, fun i x hx j u hu => (hf _ _ e2).trans (e3 i x hx j u hu)⟩
theorem RowG.wide (h : RowG K ok w L v) (hk : ∀ b, ok b → ok' b) : RowG K ok' w L v := by
  obtain ⟨p, c, h1, h2, h3, h4, h5⟩ := h
  refine ⟨p, c, h1, h2, h3, fun x hx => K.wide (h4 x hx) hk, fun hl => ?_⟩
  obtain ⟨g, o, e1, e2, e3⟩ := h5 hl
  exact ⟨g, o, e1, hk _ e2, e3⟩
theorem OwnG.nil (base : Nat) (w : World) : OwnG K base w [] (.slice none 0 0) :=
  ⟨⟨rfl, Or.inl ⟨rfl, rfl⟩⟩, fun _ => False, fun b h => h.elim, fun x h => by simp at h⟩
theorem OwnG.form (h : OwnG K base w L v) : ∃ a c, v = .slice a L.length c := by
  rcases h.1.2 with ⟨e, hz⟩ | ⟨g, cap, cur, e, _⟩
  · exact ⟨none, 0, by rw [e, hz]⟩
  · exact ⟨_, cap, e⟩
theorem OwnG.ch {r : Nat} (h : OwnG K base w L v) (g : Ch r w w') (hr : r < base) : OwnG K base w' L v := by
  obtain ⟨h1, ok, h2, h3⟩ := h
  have hl := h1.lt
  refine ⟨⟨h1.1, ?_⟩, ok, fun b hk => ⟨(h2 b hk).1, Nat.lt_of_lt_of_le (h2 b hk).2.1 g.size, (h2 b hk).2.2⟩, fun x hx => K.keep (h3 x hx) fun b o hk => g.cell (h2 b hk).2.1 (by have := (h2 b hk).1; omega)⟩
  rcases h1.2 with h | ⟨k, cap, cur, e1, e2, e3, e4⟩
  · exact Or.inl h
  · exact Or.inr ⟨k, cap, cur, e1, e2, (g.block k (hl k (by rw [e1]; rfl)).2 (fun e => by have := Option.some.inj e; omega)).trans e3, e4⟩
theorem OwnG.add {w2 w3 : World} {o : Obj} {lo g cap : Nat} {x : α} (h : OwnG K base w2 L v) (hs : K.inn (fun b => lo ≤ b ∧ b < w2.heap.size) w2 x) (hlo : base ≤ lo) (hv : ∀ k, v.ownBlock = some k → k < lo)
    (hown : w3.ownsRow base K.ty 3 (.slice (some ⟨g, 0, none⟩) (L.length + 1) cap) (L.length + 1) (K.flat L ++ K.cells x)) (hgrow : (w2.alloc o).grownBy w3 v.ownBlock) (hat : v.ownBlock = some g ∨ g = w2.heap.size + 1) :
    OwnG K base w3 (L ++ [x]) (.slice (some ⟨g, 0, none⟩) (L.length + 1) cap) := by
  obtain ⟨h1, ok, h2, h3⟩ := h
  have hsz : w2.heap.size + 1 ≤ w3.heap.size := by have := hgrow.size; simpa using this
  have fr : ∀ b o, b < w2.heap.size → v.ownBlock ≠ some b → w3.cell? ⟨b, o, none⟩ = w2.cell? ⟨b, o, none⟩ := fun b o hb hne => by
    refine World.cell?_of_block (w := w2) (a := ⟨b, o, none⟩) ?_
    exact (hgrow.block b (by simp; omega) (fun e => hne e.symm)).trans (Below.heap_alloc _ _ _ hb)
  refine ⟨by rw [List.length_append, flat_app, flat_one]; exact hown, fun b => ok b ∨ (lo ≤ b ∧ b < w2.heap.size), fun b hk => ?_, fun y hy => ?_⟩
  · rcases hk with hk | hk
    · obtain ⟨a1, a2, a3⟩ := h2 b hk
      refine ⟨a1, by omega, ?_⟩
      intro e
      have e' : g = b := by simpa [Value.ownBlock] using e
      rcases hat with h | h
      · exact a3 (by rw [h, e'])
      · omega
    · refine ⟨by omega, by omega, ?_⟩
      intro e
      have e' : g = b := by simpa [Value.ownBlock] using e
      rcases hat with h | h
      · have := hv g h; omega
      · omega
  · rcases List.mem_append.1 hy with hy | hy
    · exact K.wide (K.keep (h3 y hy) fun b o hk => fr b o (h2 b hk).2.1 (h2 b hk).2.2) fun b hk => Or.inl hk
    · obtain rfl := List.mem_singleton.1 hy
      exact K.wide (K.keep hs fun b o hk => fr b o hk.2 (fun e => by have := hv b e; omega)) fun b hk => Or.inr hk
theorem OwnG.row (h : OwnG K base w L v) : RowG K (fun b => base ≤ b ∧ b < w.heap.size) w L v := by
  obtain ⟨h1, ok, h2, h3⟩ := h
  have hl := h1.lt
  have h3' : ∀ x ∈ L, K.inn (fun b => base ≤ b ∧ b < w.heap.size) w x := fun x hx => K.wide (h3 x hx) fun b hk => ⟨(h2 b hk).1, (h2 b hk).2.1⟩
  rcases h1.2 with ⟨e, hz⟩ | ⟨g, cap, cur, e, e2, e3, e4, e5, _⟩
  · exact ⟨none, 0, by rw [e, hz], by omega, Nat.zero_le _, h3', fun h => by omega⟩
  · subst e
    refine ⟨_, cap, rfl, e4, e5, h3', fun _ => ⟨g, 0, rfl, hl g rfl, fun i x hx j u hu => ?_⟩⟩
    have hi := (List.getElem?_eq_some_iff.1 hx).1
    have hj := (List.getElem?_eq_some_iff.1 hu).1
    rw [K.len] at hj
    rw [show 0 + i * 3 + j = i * 3 + j by omega]
    exact (h1.cellAt _ (by omega)).trans (flat_get L i x hx j u hu)
theorem OwnG.one {x : α} (h : K.inn (fun b => base ≤ b ∧ b < w.heap.size) w x) (hb : base ≤ w.heap.size) :
    OwnG K base (w.alloc (.cells (K.cells x).toArray K.ty)) [x] (.slice (some ⟨w.heap.size, 0, none⟩) 1 1) := by
  refine ⟨?_, fun b => base ≤ b ∧ b < w.heap.size, fun b hk => ⟨hk.1, by rw [World.size_alloc]; omega, fun e => ?_⟩, fun y hy => ?_⟩
  · have hh := World.ownsRow_lit (e := K.ty) (size := 3) (base := base) w (K.cells x).toArray 1 hb (by unfold maxLen; omega) (by simp [K.len])
    rw [flat_one]
    simpa using hh
  · have e' : w.heap.size = b := Option.some.inj e
    omega
  · obtain rfl := List.mem_singleton.1 hy
    exact K.keep h fun b o hk => (below_alloc w _).cell (p := ⟨b, o, none⟩) hk.2
theorem rowg_ch {r lo : Nat} (h : RowG K (fun k => lo ≤ k ∧ k < w.heap.size) w L v) (g : Ch r w w') (hr : r < lo) : RowG K (fun k => lo ≤ k ∧ k < w'.heap.size) w' L v :=
  (h.keep fun k _ hk => g.cell hk.2 (by omega)).wide fun k hk => ⟨hk.1, Nat.lt_of_lt_of_le hk.2 g.size⟩
end
/-- Literals. -/
def KL : Kd (Lt × Value) where
  ty := 67
  cells x := [.bool x.1.1, .string x.1.2.nm, x.2]
  inn ok w x := SlIn ok w x.1.2.args x.2 ∧ x.1.2.nm.size ≤ maxLen
  len _ := rfl
  keep h hf := ⟨h.1.frame hf, h.2⟩
  wide h hk := ⟨h.1.weaken hk, h.2⟩
def LIn (ok : Nat → Prop) (w : World) (l : List Lt) (v : Value) : Prop := ∃ L : List (Lt × Value), L.map (·.1) = l ∧ RowG KL ok w L v
theorem LIn.keep {ok : Nat → Prop} {w w' : World} {l : List Lt} {v : Value} (h : LIn ok w l v) (hf : ∀ b o, ok b → w'.cell? ⟨b, o, none⟩ = w.cell? ⟨b, o, none⟩) : LIn ok w' l v := by
  obtain ⟨L, e, h⟩ := h; exact ⟨L, e, h.keep hf⟩
theorem LIn.wide {ok ok' : Nat → Prop} {w : World} {l : List Lt} {v : Value} (h : LIn ok w l v) (hk : ∀ b, ok b → ok' b) : LIn ok' w l v := by
  obtain ⟨L, e, h⟩ := h; exact ⟨L, e, h.wide hk⟩
theorem LIn.form {ok : Nat → Prop} {w : World} {l : List Lt} {v : Value} (h : LIn ok w l v) : ∃ p c, v = .slice p l.length c := by
  obtain ⟨L, rfl, p, c, e, _⟩ := h
  exact ⟨p, c, by rw [e]; simp⟩
theorem LIn.nil (ok : Nat → Prop) (w : World) : LIn ok w [] (.slice none 0 0) := ⟨[], rfl, RowG.nil _ _⟩
/-- Rules. -/
def KR : Kd (Rl × Value × Value) where
  ty := 34
  cells x := [.string x.1.1.nm, x.2.1, x.2.2]
  inn ok w x := SlIn ok w x.1.1.args x.2.1 ∧ x.1.1.nm.size ≤ maxLen ∧ LIn ok w x.1.2 x.2.2
  len _ := rfl
  keep h hf := ⟨h.1.frame hf, h.2.1, h.2.2.keep hf⟩
  wide h hk := ⟨h.1.weaken hk, h.2.1, h.2.2.wide hk⟩
def RIn (ok : Nat → Prop) (w : World) (l : List Rl) (v : Value) : Prop := ∃ L : List (Rl × Value × Value), L.map (·.1) = l ∧ RowG KR ok w L v
theorem RIn.keep {ok : Nat → Prop} {w w' : World} {l : List Rl} {v : Value} (h : RIn ok w l v) (hf : ∀ b o, ok b → w'.cell? ⟨b, o, none⟩ = w.cell? ⟨b, o, none⟩) : RIn ok w' l v := by
  obtain ⟨L, e, h⟩ := h; exact ⟨L, e, h.keep hf⟩
theorem RIn.wide {ok ok' : Nat → Prop} {w : World} {l : List Rl} {v : Value} (h : RIn ok w l v) (hk : ∀ b, ok b → ok' b) : RIn ok' w l v := by
  obtain ⟨L, e, h⟩ := h; exact ⟨L, e, h.wide hk⟩
theorem RIn.form {ok : Nat → Prop} {w : World} {l : List Rl} {v : Value} (h : RIn ok w l v) : ∃ p c, v = .slice p l.length c := by
  obtain ⟨L, rfl, p, c, e, _⟩ := h
  exact ⟨p, c, by rw [e]; simp⟩
theorem Tryz.infoL : (Tryz.prog.info? 67).map (fun i => (i.zero, i.size, i.bytes)) = some (some (.agg #[.bool false, .string ⟨#[]⟩, .slice none 0 0]), 3, 48) := by kernel_rfl
theorem Tryz.infoR : (Tryz.prog.info? 34).map (fun i => (i.zero, i.size, i.bytes)) = some (some (.agg #[.string ⟨#[]⟩, .slice none 0 0, .slice none 0 0]), 3, 64) := by kernel_rfl
theorem newsK (w : World) (a b c : Value) (t : TypeId) : ∀ j u, [a, b, c][j]? = some u → (w.alloc (.cells #[a, b, c] t)).cell? ((⟨w.heap.size, 0, none⟩ : Addr).add j) = some u := World.news_of_block (heap_alloc_new w _)
theorem one_L (b : Bool) (a : ByteArray) (p : Option Addr) (n c : Nat) : ∀ u ∈ [Value.bool b, .string a, .slice p n c], u.oneCell' = true := by
  intro u hu
  simp at hu
  rcases hu with rfl | rfl | rfl <;> rfl
theorem one_R (a : ByteArray) (p q : Option Addr) (n c m d : Nat) : ∀ u ∈ [Value.string a, .slice p n c, .slice q m d], u.oneCell' = true := by
  intro u hu
  simp at hu
  rcases hu with rfl | rfl | rfl <;> rfl
/-- Bindings. -/
def KB : Kd (Bd × Value) where
  ty := 52
  cells x := [.string x.1.1, .string x.1.2.nm, x.2]
  inn ok w x := SlIn ok w x.1.2.args x.2 ∧ x.1.2.nm.size ≤ maxLen ∧ x.1.1.size ≤ maxLen
  len _ := rfl
  keep h hf := ⟨h.1.frame hf, h.2⟩
  wide h hk := ⟨h.1.weaken hk, h.2⟩
def SIn (ok : Nat → Prop) (w : World) (l : List Bd) (v : Value) : Prop := ∃ L : List (Bd × Value), L.map (·.1) = l ∧ RowG KB ok w L v
theorem SIn.keep {ok : Nat → Prop} {w w' : World} {l : List Bd} {v : Value} (h : SIn ok w l v) (hf : ∀ b o, ok b → w'.cell? ⟨b, o, none⟩ = w.cell? ⟨b, o, none⟩) : SIn ok w' l v := by
  obtain ⟨L, e, h⟩ := h; exact ⟨L, e, h.keep hf⟩
theorem SIn.wide {ok ok' : Nat → Prop} {w : World} {l : List Bd} {v : Value} (h : SIn ok w l v) (hk : ∀ b, ok b → ok' b) : SIn ok' w l v := by
  obtain ⟨L, e, h⟩ := h; exact ⟨L, e, h.wide hk⟩
theorem SIn.form {ok : Nat → Prop} {w : World} {l : List Bd} {v : Value} (h : SIn ok w l v) : ∃ p c, v = .slice p l.length c := by
  obtain ⟨L, rfl, p, c, e, _⟩ := h
  exact ⟨p, c, by rw [e]; simp⟩
theorem SIn.nil (ok : Nat → Prop) (w : World) : SIn ok w [] (.slice none 0 0) := ⟨[], rfl, RowG.nil _ _⟩
theorem SIn.gr {B : Nat} {w w' : World} {l : List Bd} {v : Value} (h : SIn (· < B) w l v) (g : Gr w w') (hB : B ≤ w.heap.size) : SIn (· < B) w' l v := h.keep fun _ _ hb => g.cell (Nat.lt_of_lt_of_le hb hB)
theorem SIn.deep {B B' : Nat} {w w' : World} {l : List Bd} {v : Value} (h : SIn (· < B) w l v) (hb : Below B' w w') (hB : B ≤ B') : SIn (· < B) w' l v := h.keep fun _ _ hlt => hb.cell (p := ⟨_, _, none⟩) (Nat.lt_of_lt_of_le hlt hB)
/-- The bindings of a list, three cells each. -/
def RowS (B : Nat) (w : World) (l : List Bd) (p : Option Addr) : Prop := ∀ k, k < l.length → ∃ t b o q d, l[k]? = some t ∧ p = some ⟨b, o, none⟩ ∧ b < B ∧ w.cell? ⟨b, o + k * 3, none⟩ = some (.string t.1) ∧ w.cell? ⟨b, o + k * 3 + 1, none⟩ = some (.string t.2.nm) ∧
  w.cell? ⟨b, o + k * 3 + 1 + 1, none⟩ = some (.slice q t.2.args.length d) ∧ SlIn (· < B) w t.2.args (.slice q t.2.args.length d) ∧ t.2.nm.size ≤ maxLen ∧ t.1.size ≤ maxLen
theorem SIn.row {B : Nat} {w : World} {l : List Bd} {v : Value} (h : SIn (· < B) w l v) : ∃ p c, v = .slice p l.length c ∧ l.length ≤ c ∧ c ≤ maxLen ∧ RowS B w l p := by
  obtain ⟨L, rfl, p, c, e, h1, h2, h3, h4⟩ := h
  refine ⟨p, c, by rw [e]; simp, by simpa using h1, h2, fun k hk => ?_⟩
  have hk' : k < L.length := by simpa using hk
  obtain ⟨g, o, e1, e2, e3⟩ := h4 (by omega)
  obtain ⟨x, hx⟩ : ∃ x, L[k]? = some x := ⟨L[k], by simp [hk']⟩
  obtain ⟨s1, s2, s3⟩ := h3 x (List.mem_of_getElem? hx)
  obtain ⟨q, d, eq⟩ := s1.form
  refine ⟨x.1, g, o, q, d, by simp [hx], e1, e2, e3 k x hx 0 _ rfl, e3 k x hx 1 _ rfl, ?_, by rw [← eq]; exact s1, s2, s3⟩
  rw [← eq]
  exact e3 k x hx 2 _ rfl
theorem RowS.gr {B : Nat} {w w' : World} {l : List Bd} {p : Option Addr} (h : RowS B w l p) (g : Gr w w') (hB : B ≤ w.heap.size) : RowS B w' l p := fun k hk => by
  obtain ⟨t, b, o, q, d, h1, h2, h3, h4, h5, h6, h7, h8⟩ := h k hk
  exact ⟨t, b, o, q, d, h1, h2, h3, (g.cell (Nat.lt_of_lt_of_le h3 hB)).trans h4, (g.cell (Nat.lt_of_lt_of_le h3 hB)).trans h5, (g.cell (Nat.lt_of_lt_of_le h3 hB)).trans h6, h7.gr g hB, h8⟩
theorem RowS.deep {B B' : Nat} {w w' : World} {l : List Bd} {p : Option Addr} (h : RowS B w l p) (g : Below B' w w') (hB : B ≤ B') : RowS B w' l p := fun k hk => by
  obtain ⟨t, b, o, q, d, h1, h2, h3, h4, h5, h6, h7, h8⟩ := h k hk
  have hb : b < B' := Nat.lt_of_lt_of_le h3 hB
  exact ⟨t, b, o, q, d, h1, h2, h3, (g.cell (p := ⟨b, _, none⟩) hb).trans h4, (g.cell (p := ⟨b, _, none⟩) hb).trans h5, (g.cell (p := ⟨b, _, none⟩) hb).trans h6, h7.deep g hB, h8⟩
end UniK
end Go.Proofs.YtihbnonbhelbmaaGreatDoor
