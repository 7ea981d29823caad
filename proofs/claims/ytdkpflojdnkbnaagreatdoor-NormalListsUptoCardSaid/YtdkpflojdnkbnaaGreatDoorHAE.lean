/- Texts laid together: TermU; UniM; UniK; UniA; UniC. Their own heads stand before each. -/
import Derived.Test.YtdkpflojdnkbnaaGreatDoorHAD
import Derived.Deep.AppendLies
import Derived.Deep.RegionLaw
import Derived.Test.YtdkpflojdnkbnaaGreatDoorHAA
import Derived.WalkSmall
import Derived.WalkLawsBesides
import Derived.Laws.ResultCell
import Derived.Test.YtdkpflojdnkbnaaGreatDoorHAC
import Derived.Test.YtdkpflojdnkbnaaGreatDoorHAB
import Derived.IntWalk
import Derived.BigQuiet
import Derived.Deep.RegionHeld3
import Derived.Deep.DeepCutAuto
import Derived.Deep.RegionWith
/- A list of terms that a call makes for itself by append: its row, and the lists behind it. -/
namespace Go.Proofs.YtdkpflojdnkbnaaGreatDoor
open Go Go.RowKit
namespace TermU
open LexM TermM TermI Kit TermN
theorem Row.deep {B B' : Nat} {w w' : World} {l : List Tm} {p : Option Addr} (h : Row B w l p) (g : Below B' w w') (hB : B ≤ B') : Row B w' l p := fun k hk => by
  obtain ⟨t, b, o, q, d, h1, h2, h3, h4, h5, h6, h7⟩ := h k hk
  exact ⟨t, b, o, q, d, h1, h2, h3, (g.cell (p := ⟨b, _, none⟩) (Nat.lt_of_lt_of_le h3 hB)).trans h4, (g.cell (p := ⟨b, _, none⟩) (Nat.lt_of_lt_of_le h3 hB)).trans h5, h6.deep g hB, h7⟩
def flatL (L : List (Tm × Value)) : List Value := L.flatMap fun x => [.string x.1.nm, x.2]
theorem flatL_snoc (L : List (Tm × Value)) (t : Tm) (v : Value) : flatL (L ++ [(t, v)]) = flatL L ++ [.string t.nm, v] := by simp [flatL]
theorem flatL_len (L : List (Tm × Value)) : (flatL L).length = L.length * 2 := by
  induction L with
  | nil => rfl
  | cons a L ih => simp [flatL] at ih ⊢; omega
theorem flatL_get : ∀ (L : List (Tm × Value)) (i : Nat) (x : Tm × Value), L[i]? = some x → (flatL L)[i * 2]? = some (.string x.1.nm) ∧ (flatL L)[i * 2 + 1]? = some x.2
  | [], i, x, h => by simp at h
  | a :: L, 0, x, h => by simp at h; subst h; exact ⟨rfl, rfl⟩
  | a :: L, i + 1, x, h => by
    have ih := flatL_get L i x (by simpa using h)
    have e : (i + 1) * 2 = i * 2 + 2 := by omega
    rw [e]
    exact ih
/-- The slice value v is a row of the call's own, from block base on, that holds the terms of L; the lists behind them lie in blocks from base on too, none of them the row's. -/
def Own (base : Nat) (w : World) (L : List (Tm × Value)) (v : Value) : Prop :=
  w.ownsRow base 24 2 v L.length (flatL L) ∧ ∃ ok : Nat → Prop, (∀ b, ok b → base ≤ b ∧ b < w.heap.size ∧ v.ownBlock ≠ some b) ∧ ∀ x ∈ L, SlIn ok w x.1.args x.2 ∧ x.1.nm.size ≤ maxLen
section
variable {base : Nat} {w w' : World} {L : List (Tm × Value)} {v : Value}
theorem Own.nil (base : Nat) (w : World) : Own base w [] (.slice none 0 0) :=
  ⟨⟨rfl, Or.inl ⟨rfl, rfl⟩⟩, fun _ => False, fun b h => h.elim, fun x h => by simp at h⟩
theorem Own.form (h : Own base w L v) : ∃ a c, v = .slice a L.length c := by
  rcases h.1.2 with ⟨e, hz⟩ | ⟨g, cap, cur, e, _⟩
  · exact ⟨none, 0, by rw [e, hz]⟩
  · exact ⟨_, cap, e⟩
theorem Own.below (h : Own base w L v) (hb : Below w.heap.size w w') : Own base w' L v := by
  obtain ⟨h1, ok, h2, h3⟩ := h
  have hl := h1.lt
  refine ⟨⟨h1.1, ?_⟩, ok, fun b hk => ⟨(h2 b hk).1, Nat.lt_of_lt_of_le (h2 b hk).2.1 hb.size, (h2 b hk).2.2⟩, fun x hx => ⟨(h3 x hx).1.frame fun b o hk => hb.cell (p := ⟨b, o, none⟩) (h2 b hk).2.1, (h3 x hx).2⟩⟩
  rcases h1.2 with h | ⟨g, cap, cur, e1, e2, e3, e4⟩
  · exact Or.inl h
  · exact Or.inr ⟨g, cap, cur, e1, e2, (hb.block g (hl g (by rw [e1]; rfl)).2).trans e3, e4⟩
theorem Own.far (h : Own base w L v) {p : Addr} (hp : p.block < base) (u : Value) : Own base (w.setCell p u) L v := by
  obtain ⟨h1, ok, h2, h3⟩ := h
  refine ⟨ownsRow_setCell_below h1 hp u, ok, fun b hk => ⟨(h2 b hk).1, by simpa using (h2 b hk).2.1, (h2 b hk).2.2⟩, fun x hx => ⟨(h3 x hx).1.frame fun b o hk => ?_, (h3 x hx).2⟩⟩
  exact World.cell?_of_block (w := w) (a := ⟨b, o, none⟩) (Below.heap_setCell _ _ _ _ (show b ≠ p.block by have := (h2 b hk).1; omega))
theorem Own.add {w2 w3 : World} {o : Obj} {lo g cap : Nat} {t : Tm} {v1 : Value} (h : Own base w2 L v) (hs : SlIn (fun b => lo ≤ b ∧ b < w2.heap.size) w2 t.args v1) (hn : t.nm.size ≤ maxLen) (hlo : base ≤ lo) (hv : ∀ k, v.ownBlock = some k → k < lo)
    (hown : w3.ownsRow base 24 2 (.slice (some ⟨g, 0, none⟩) (L.length + 1) cap) (L.length + 1) (flatL L ++ [.string t.nm, v1])) (hgrow : (w2.alloc o).grownBy w3 v.ownBlock) (hat : v.ownBlock = some g ∨ g = w2.heap.size + 1) :
    Own base w3 (L ++ [(t, v1)]) (.slice (some ⟨g, 0, none⟩) (L.length + 1) cap) := by
  obtain ⟨h1, ok, h2, h3⟩ := h
  have hsz : w2.heap.size + 1 ≤ w3.heap.size := by have := hgrow.size; simpa using this
  have fr : ∀ b o, b < w2.heap.size → v.ownBlock ≠ some b → w3.cell? ⟨b, o, none⟩ = w2.cell? ⟨b, o, none⟩ := fun b o hb hne => by
    refine World.cell?_of_block (w := w2) (a := ⟨b, o, none⟩) ?_
    exact (hgrow.block b (by simp; omega) (fun e => hne e.symm)).trans (Below.heap_alloc _ _ _ hb)
  refine ⟨by rw [List.length_append, flatL_snoc]; exact hown, fun b => ok b ∨ (lo ≤ b ∧ b < w2.heap.size), fun b hk => ?_, fun x hx => ?_⟩
  · rcases hk with hk | hk
    · obtain ⟨a1, a2, a3⟩ := h2 b hk
      refine ⟨a1, by omega, ?_⟩
      intro e
      have e' : g = b := by simpa [Value.ownBlock] using e
      rcases hat with h | h
      · exact a3 (by rw [h, e'])
      · omega
    · refine ⟨by omega, by omega, ?_⟩
      intro e
      have e' : g = b := by simpa [Value.ownBlock] using e
      rcases hat with h | h
      · have := hv g h; omega
      · omega
  · rcases List.mem_append.1 hx with hx | hx
    · refine ⟨((h3 x hx).1.frame fun b o hk => fr b o (h2 b hk).2.1 (h2 b hk).2.2).weaken fun b hk => Or.inl hk, (h3 x hx).2⟩
    · obtain rfl := List.mem_singleton.1 hx
      refine ⟨(hs.frame fun b o hk => fr b o hk.2 (fun e => by have := hv b e; omega)).weaken fun b hk => Or.inr hk, hn⟩
theorem Own.slin (h : Own base w L v) : SlIn (fun b => base ≤ b ∧ b < w.heap.size) w (L.map (·.1)) v := by
  obtain ⟨h1, ok, h2, h3⟩ := h
  have hl := h1.lt
  have key : ∀ (i : Nat) (t : Tm), (L.map (·.1))[i]? = some t → ∃ x : Tm × Value, L[i]? = some x ∧ x.1 = t := by
    intro i t ht
    rw [List.getElem?_map] at ht
    obtain ⟨x, a, b⟩ := Option.map_eq_some_iff.1 ht
    exact ⟨x, a, b⟩
  rcases h1.2 with ⟨rfl, hz⟩ | ⟨g, cap, cur, rfl, e2, e3, e4, e5, e6, e7⟩
  · have : L = [] := List.eq_nil_of_length_eq_zero hz
    subst this
    exact SlIn.none _ _
  · have hm : (L.map (·.1)).length = L.length := by simp
    rw [← hm]
    refine .mk _ cap _ (fun i => (L.getD i (default, undef)).2) g 0 (fun _ => ⟨rfl, hl g rfl⟩) (fun h => by cases h) (by rw [hm]; exact e4) e5 (fun i t ht => ?_) (fun i t ht => ?_)
    · obtain ⟨x, hx, rfl⟩ := key i t ht
      have hi : i < L.length := (List.getElem?_eq_some_iff.1 hx).1
      obtain ⟨f1, f2⟩ := flatL_get L i x hx
      rw [Nat.zero_add]
      exact ⟨(h1.cellAt _ (by omega)).trans f1, by rw [h1.cellAt _ (by omega), f2]; simp [List.getD, hx], (h3 x (List.mem_of_getElem? hx)).2⟩
    · obtain ⟨x, hx, rfl⟩ := key i t ht
      have := (h3 x (List.mem_of_getElem? hx)).1.weaken fun b hk => (⟨(h2 b hk).1, (h2 b hk).2.1⟩ : base ≤ b ∧ b < w.heap.size)
      simpa [List.getD, hx] using this
end
theorem news2 (w : World) (a b : Value) (t : TypeId) : ∀ j u, [a, b][j]? = some u → (w.alloc (.cells #[a, b] t)).cell? ((⟨w.heap.size, 0, none⟩ : Addr).add j) = some u := World.news_of_block (heap_alloc_new w _)
theorem one2 (a : ByteArray) (p : Option Addr) (n c : Nat) : ∀ u ∈ [Value.string a, .slice p n c], u.oneCell' = true := by
  intro u hu
  simp at hu
  rcases hu with rfl | rfl <;> rfl
theorem Tryz.info28 : (Tryz.prog.info? 24).map (fun i => (i.zero, i.size, i.bytes)) = some (some (.agg #[.string ⟨#[]⟩, .slice none 0 0]), 2, 40) := by kernel_rfl
end TermU
end Go.Proofs.YtdkpflojdnkbnaaGreatDoor
/- Substitutions as plain data: validity, look-up, replacement, matching, composition. No conditions. -/
namespace Go.Proofs.YtdkpflojdnkbnaaGreatDoor
open Go
namespace UniM
open LexM TermM
abbrev Bd := ByteArray × Tm
def eqB (a b : ByteArray) : Bool := a.data.toList == b.data.toList
theorem eqB_iff {a b : ByteArray} : eqB a b = true ↔ a = b := by
  unfold eqB
  rw [beq_iff_eq]
  exact ⟨bytes_inj, fun h => by rw [h]⟩
def lookS (s : List Bd) (v : ByteArray) : Option Tm := (s.find? fun b => eqB b.1 v).map (·.2)
mutual
/-- Each leaf that is bound is replaced. -/
def appT (s : List Bd) : Tm → Tm
  | .mk n l => if l.isEmpty then (lookS s n).getD (.mk n []) else .mk n (appL s l)
def appL (s : List Bd) : List Tm → List Tm
  | [] => []
  | t :: l => appT s t :: appL s l
end
theorem appL_map (s : List Bd) : ∀ l, appL s l = l.map (appT s)
  | [] => rfl
  | t :: l => by simp [appL, appL_map s l]
end UniM
end Go.Proofs.YtdkpflojdnkbnaaGreatDoor
/- Rows of elements of three cells in memory (literals, rules, bindings), with lists behind them; for seats without the parser. Made by genunik.py. No conditions. -/
namespace Go.Proofs.YtdkpflojdnkbnaaGreatDoor
open Go Go.RowKit
namespace UniK
open Kit LexM TermM TermI TermU UniM
abbrev Lt := Bool × Tm
abbrev Rl := Tm × List Lt
/-- Of what was there only block r may have turned. -/
abbrev Ch (r : Nat) (a b : World) : Prop := a.grownBy b (some r)
theorem Ch.refl (r : Nat) (w : World) : Ch r w w := ⟨rfl, rfl, rfl, Nat.le_refl _, fun _ _ _ => rfl⟩
theorem Ch.trans {r : Nat} {a b c : World} (h : Ch r a b) (k : Ch r b c) : Ch r a c :=
  ⟨World.grownBy.os k |>.trans h.os, k.tape.trans h.tape, k.output.trans h.output, Nat.le_trans h.size k.size, fun i hi hr => (k.block i (Nat.lt_of_lt_of_le hi h.size) hr).trans (h.block i hi hr)⟩
theorem Ch.of {r : Nat} {a b : World} (h : Below a.heap.size a b) : Ch r a b := ⟨h.os, h.tape, h.output, h.size, fun i hi _ => h.block i hi⟩
theorem Ch.below {r : Nat} {a b c : World} (h : Ch r a b) (k : Below b.heap.size b c) : Ch r a c := h.trans (Ch.of k)
theorem Ch.put {r : Nat} {a b : World} (h : Ch r a b) {p : Addr} (hp : p.block = r ∨ a.heap.size ≤ p.block) (u : Value) : Ch r a (b.setCell p u) := by
  refine ⟨h.os, h.tape, h.output, Nat.le_trans h.size (by simp [World.setCell]), fun i hi hr => (Below.heap_setCell _ _ _ _ (fun e => ?_)).trans (h.block i hi hr)⟩
  rcases hp with hp | hp
  · exact hr (by rw [e, hp])
  · omega
theorem Ch.alloc {r : Nat} {a b : World} (h : Ch r a b) (o : Obj) : Ch r a (b.alloc o) := h.below (below_alloc b o)
theorem Ch.grown {r : Nat} {a b c : World} {row : Option Nat} (h : Ch r a b) (hg : b.grownBy c row) (hr : ∀ k, row = some k → a.heap.size ≤ k) : Ch r a c :=
  ⟨hg.os.trans h.os, hg.tape.trans h.tape, hg.output.trans h.output, Nat.le_trans h.size hg.size, fun i hi hne => (hg.block i (Nat.lt_of_lt_of_le hi h.size) (fun e => by have := hr i e.symm; omega)).trans (h.block i hi hne)⟩
theorem Ch.cell {r : Nat} {a b : World} (h : Ch r a b) {g o : Nat} (hg : g < a.heap.size) (hne : g ≠ r) : b.cell? ⟨g, o, none⟩ = a.cell? ⟨g, o, none⟩ :=
  World.cell?_of_block (w := a) (a := ⟨g, o, none⟩) (h.block g hg (fun e => hne (Option.some.inj e)))
theorem Ch.has {r : Nat} {a b : World} {g : Nat} {cs : Array Value} (h : Ch r a b) (k : Has a g cs) (hne : g ≠ r) : Has b g cs := by
  have hl := k.lt
  obtain ⟨t, k⟩ := k
  exact ⟨t, (h.block g hl (fun e => hne (Option.some.inj e))).trans k⟩
theorem Ch.toBelow {r B : Nat} {a b : World} (h : Ch r a b) (hB : B ≤ r) (hs : B ≤ a.heap.size) : Below B a b :=
  ⟨h.os, h.tape, h.output, h.size, fun i hi => h.block i (by omega) (fun e => by have := Option.some.inj e; omega)⟩
/-- Terms that lie in new blocks stay. -/
theorem slin_ch {r lo : Nat} {a b : World} {l : List Tm} {v : Value} (h : SlIn (fun k => lo ≤ k ∧ k < a.heap.size) a l v) (g : Ch r a b) (hr : r < lo) : SlIn (fun k => lo ≤ k ∧ k < b.heap.size) b l v :=
  (h.frame fun k _ hk => g.cell hk.2 (by omega)).weaken fun k hk => ⟨hk.1, Nat.lt_of_lt_of_le hk.2 g.size⟩
theorem own_ch {r base : Nat} {a b : World} {L : List (Tm × Value)} {v : Value} (h : Own base a L v) (g : Ch r a b) (hr : r < base) : Own base b L v := by
  obtain ⟨h1, ok, h2, h3⟩ := h
  have hl := h1.lt
  refine ⟨⟨h1.1, ?_⟩, ok, fun b hk => ⟨(h2 b hk).1, Nat.lt_of_lt_of_le (h2 b hk).2.1 g.size, (h2 b hk).2.2⟩, fun x hx => ⟨(h3 x hx).1.frame fun b o hk => g.cell (h2 b hk).2.1 (by have := (h2 b hk).1; omega), (h3 x hx).2⟩⟩
  rcases h1.2 with h | ⟨k, cap, cur, e1, e2, e3, e4⟩
  · exact Or.inl h
  · exact Or.inr ⟨k, cap, cur, e1, e2, (g.block k (hl k (by rw [e1]; rfl)).2 (fun e => by have := Option.some.inj e; omega)).trans e3, e4⟩
/-- A kind of elements of three cells. -/
structure Kd (α : Type) where
  ty : TypeId
  cells : α → List Value
  inn : (Nat → Prop) → World → α → Prop
  len : ∀ x, (cells x).length = 3
  keep : ∀ {ok : Nat → Prop} {w w' : World} {x : α}, inn ok w x → (∀ b o, ok b → w'.cell? ⟨b, o, none⟩ = w.cell? ⟨b, o, none⟩) → inn ok w' x
  wide : ∀ {ok ok' : Nat → Prop} {w : World} {x : α}, inn ok w x → (∀ b, ok b → ok' b) → inn ok' w x
def Kd.flat {α : Type} (K : Kd α) (L : List α) : List Value := L.flatMap K.cells
section
variable {α : Type} {K : Kd α}
theorem flat_app (a b : List α) : K.flat (a ++ b) = K.flat a ++ K.flat b := by simp [Kd.flat]
theorem flat_one (a : α) : K.flat [a] = K.cells a := by simp [Kd.flat]
theorem flat_len (L : List α) : (K.flat L).length = L.length * 3 := by
  induction L with
  | nil => rfl
  | cons a L ih =>
    have := K.len a
    simp only [Kd.flat, List.flatMap_cons, List.length_append, List.length_cons] at ih ⊢
    omega
theorem flat_get : ∀ (L : List α) (i : Nat) (x : α), L[i]? = some x → ∀ (j : Nat) (u : Value), (K.cells x)[j]? = some u → (K.flat L)[i * 3 + j]? = some u
  | [], i, x, h => by simp at h
  | a :: L, 0, x, h => by
    intro j u hu
    simp at h
    subst h
    have hj := (List.getElem?_eq_some_iff.1 hu).1
    simp only [Kd.flat, List.flatMap_cons]
    rw [List.getElem?_append_left (by omega), show 0 * 3 + j = j by omega]
    exact hu
  | a :: L, i + 1, x, h => by
    intro j u hu
    have ih := flat_get L i x (by simpa using h) j u hu
    have hl := K.len a
    simp only [Kd.flat, List.flatMap_cons] at ih ⊢
    rw [List.getElem?_append_right (by omega), show (i + 1) * 3 + j - (K.cells a).length = i * 3 + j by omega]
    exact ih
/-- A row of the call's own that holds the elements; what is behind them lies in other blocks from base on. -/
def OwnG (K : Kd α) (base : Nat) (w : World) (L : List α) (v : Value) : Prop :=
  w.ownsRow base K.ty 3 v L.length (K.flat L) ∧ ∃ ok : Nat → Prop, (∀ b, ok b → base ≤ b ∧ b < w.heap.size ∧ v.ownBlock ≠ some b) ∧ ∀ x ∈ L, K.inn ok w x
/-- A slice value that holds the elements in blocks of a kind. -/
def RowG (K : Kd α) (ok : Nat → Prop) (w : World) (L : List α) (v : Value) : Prop :=
  ∃ p c, v = .slice p L.length c ∧ L.length ≤ c ∧ c ≤ maxLen ∧ (∀ x ∈ L, K.inn ok w x) ∧ (0 < L.length → ∃ g o, p = some ⟨g, o, none⟩ ∧ ok g ∧ ∀ i x, L[i]? = some x → ∀ j u, (K.cells x)[j]? = some u → w.cell? ⟨g, o + i * 3 + j, none⟩ = some u)
variable {ok ok' : Nat → Prop} {base : Nat} {w w' : World} {L : List α} {v : Value}
theorem RowG.nil (ok : Nat → Prop) (w : World) : RowG K ok w [] (.slice none 0 0) := ⟨none, 0, rfl, Nat.le_refl _, Nat.zero_le _, fun x h => by simp at h, fun h => by simp at h⟩
theorem RowG.keep (h : RowG K ok w L v) (hf : ∀ b o, ok b → w'.cell? ⟨b, o, none⟩ = w.cell? ⟨b, o, none⟩) : RowG K ok w' L v := by
  obtain ⟨p, c, h1, h2, h3, h4, h5⟩ := h
  refine ⟨p, c, h1, h2, h3, fun x hx => K.keep (h4 x hx) hf, fun hl => ?_⟩
  obtain ⟨g, o, e1, e2, e3⟩ := h5 hl
  exact ⟨g, o, e1, e2, fun i x hx j u hu => (hf _ _ e2).trans (e3 i x hx j u hu)⟩
theorem RowG.wide (h : RowG K ok w L v) (hk : ∀ b, ok b → ok' b) : RowG K ok' w L v := by
  obtain ⟨p, c, h1, h2, h3, h4, h5⟩ := h
  refine ⟨p, c, h1, h2, h3, fun x hx => K.wide (h4 x hx) hk, fun hl => ?_⟩
  obtain ⟨g, o, e1, e2, e3⟩ := h5 hl
  exact ⟨g, o, e1, hk _ e2, e3⟩
theorem OwnG.nil (base : Nat) (w : World) : OwnG K base w [] (.slice none 0 0) :=
  ⟨⟨rfl, Or.inl ⟨rfl, rfl⟩⟩, fun _ => False, fun b h => h.elim, fun x h => by simp at h⟩
theorem OwnG.form (h : OwnG K base w L v) : ∃ a c, v = .slice a L.length c := by
  rcases h.1.2 with ⟨e, hz⟩ | ⟨g, cap, cur, e, _⟩
  · exact ⟨none, 0, by rw [e, hz]⟩
  · exact ⟨_, cap, e⟩
theorem OwnG.ch {r : Nat} (h : OwnG K base w L v) (g : Ch r w w') (hr : r < base) : OwnG K base w' L v := by
  obtain ⟨h1, ok, h2, h3⟩ := h
  have hl := h1.lt
  refine ⟨⟨h1.1, ?_⟩, ok, fun b hk => ⟨(h2 b hk).1, Nat.lt_of_lt_of_le (h2 b hk).2.1 g.size, (h2 b hk).2.2⟩, fun x hx => K.keep (h3 x hx) fun b o hk => g.cell (h2 b hk).2.1 (by have := (h2 b hk).1; omega)⟩
  rcases h1.2 with h | ⟨k, cap, cur, e1, e2, e3, e4⟩
  · exact Or.inl h
  · exact Or.inr ⟨k, cap, cur, e1, e2, (g.block k (hl k (by rw [e1]; rfl)).2 (fun e => by have := Option.some.inj e; omega)).trans e3, e4⟩
theorem OwnG.add {w2 w3 : World} {o : Obj} {lo g cap : Nat} {x : α} (h : OwnG K base w2 L v) (hs : K.inn (fun b => lo ≤ b ∧ b < w2.heap.size) w2 x) (hlo : base ≤ lo) (hv : ∀ k, v.ownBlock = some k → k < lo)
    (hown : w3.ownsRow base K.ty 3 (.slice (some ⟨g, 0, none⟩) (L.length + 1) cap) (L.length + 1) (K.flat L ++ K.cells x)) (hgrow : (w2.alloc o).grownBy w3 v.ownBlock) (hat : v.ownBlock = some g ∨ g = w2.heap.size + 1) :
    OwnG K base w3 (L ++ [x]) (.slice (some ⟨g, 0, none⟩) (L.length + 1) cap) := by
  obtain ⟨h1, ok, h2, h3⟩ := h
  have hsz : w2.heap.size + 1 ≤ w3.heap.size := by have := hgrow.size; simpa using this
  have fr : ∀ b o, b < w2.heap.size → v.ownBlock ≠ some b → w3.cell? ⟨b, o, none⟩ = w2.cell? ⟨b, o, none⟩ := fun b o hb hne => by
    refine World.cell?_of_block (w := w2) (a := ⟨b, o, none⟩) ?_
    exact (hgrow.block b (by simp; omega) (fun e => hne e.symm)).trans (Below.heap_alloc _ _ _ hb)
  refine ⟨by rw [List.length_append, flat_app, flat_one]; exact hown, fun b => ok b ∨ (lo ≤ b ∧ b < w2.heap.size), fun b hk => ?_, fun y hy => ?_⟩
  · rcases hk with hk | hk
    · obtain ⟨a1, a2, a3⟩ := h2 b hk
      refine ⟨a1, by omega, ?_⟩
      intro e
      have e' : g = b := by simpa [Value.ownBlock] using e
      rcases hat with h | h
      · exact a3 (by rw [h, e'])
      · omega
    · refine ⟨by omega, by omega, ?_⟩
      intro e
      have e' : g = b := by simpa [Value.ownBlock] using e
      rcases hat with h | h
      · have := hv g h; omega
      · omega
  · rcases List.mem_append.1 hy with hy | hy
    · exact K.wide (K.keep (h3 y hy) fun b o hk => fr b o (h2 b hk).2.1 (h2 b hk).2.2) fun b hk => Or.inl hk
    · obtain rfl := List.mem_singleton.1 hy
      exact K.wide (K.keep hs fun b o hk => fr b o hk.2 (fun e => by have := hv b e; omega)) fun b hk => Or.inr hk
theorem OwnG.row (h : OwnG K base w L v) : RowG K (fun b => base ≤ b ∧ b < w.heap.size) w L v := by
  obtain ⟨h1, ok, h2, h3⟩ := h
  have hl := h1.lt
  have h3' : ∀ x ∈ L, K.inn (fun b => base ≤ b ∧ b < w.heap.size) w x := fun x hx => K.wide (h3 x hx) fun b hk => ⟨(h2 b hk).1, (h2 b hk).2.1⟩
  rcases h1.2 with ⟨e, hz⟩ | ⟨g, cap, cur, e, e2, e3, e4, e5, _⟩
  · exact ⟨none, 0, by rw [e, hz], by omega, Nat.zero_le _, h3', fun h => by omega⟩
  · subst e
    refine ⟨_, cap, rfl, e4, e5, h3', fun _ => ⟨g, 0, rfl, hl g rfl, fun i x hx j u hu => ?_⟩⟩
    have hi := (List.getElem?_eq_some_iff.1 hx).1
    have hj := (List.getElem?_eq_some_iff.1 hu).1
    rw [K.len] at hj
    rw [show 0 + i * 3 + j = i * 3 + j by omega]
    exact (h1.cellAt _ (by omega)).trans (flat_get L i x hx j u hu)
theorem OwnG.one {x : α} (h : K.inn (fun b => base ≤ b ∧ b < w.heap.size) w x) (hb : base ≤ w.heap.size) :
    OwnG K base (w.alloc (.cells (K.cells x).toArray K.ty)) [x] (.slice (some ⟨w.heap.size, 0, none⟩) 1 1) := by
  refine ⟨?_, fun b => base ≤ b ∧ b < w.heap.size, fun b hk => ⟨hk.1, by rw [World.size_alloc]; omega, fun e => ?_⟩, fun y hy => ?_⟩
  · have hh := World.ownsRow_lit (e := K.ty) (size := 3) (base := base) w (K.cells x).toArray 1 hb (by unfold maxLen; omega) (by simp [K.len])
    rw [flat_one]
    simpa using hh
  · have e' : w.heap.size = b := Option.some.inj e
    omega
  · obtain rfl := List.mem_singleton.1 hy
    exact K.keep h fun b o hk => (below_alloc w _).cell (p := ⟨b, o, none⟩) hk.2
theorem rowg_ch {r lo : Nat} (h : RowG K (fun k => lo ≤ k ∧ k < w.heap.size) w L v) (g : Ch r w w') (hr : r < lo) : RowG K (fun k => lo ≤ k ∧ k < w'.heap.size) w' L v :=
  (h.keep fun k _ hk => g.cell hk.2 (by omega)).wide fun k hk => ⟨hk.1, Nat.lt_of_lt_of_le hk.2 g.size⟩
end
/-- Literals. -/
def KL : Kd (Lt × Value) where
  ty := 47
  cells x := [.bool x.1.1, .string x.1.2.nm, x.2]
  inn ok w x := SlIn ok w x.1.2.args x.2 ∧ x.1.2.nm.size ≤ maxLen
  len _ := rfl
  keep h hf := ⟨h.1.frame hf, h.2⟩
  wide h hk := ⟨h.1.weaken hk, h.2⟩
def LIn (ok : Nat → Prop) (w : World) (l : List Lt) (v : Value) : Prop := ∃ L : List (Lt × Value), L.map (·.1) = l ∧ RowG KL ok w L v
theorem LIn.keep {ok : Nat → Prop} {w w' : World} {l : List Lt} {v : Value} (h : LIn ok w l v) (hf : ∀ b o, ok b → w'.cell? ⟨b, o, none⟩ = w.cell? ⟨b, o, none⟩) : LIn ok w' l v := by
  obtain ⟨L, e, h⟩ := h; exact ⟨L, e, h.keep hf⟩
theorem LIn.wide {ok ok' : Nat → Prop} {w : World} {l : List Lt} {v : Value} (h : LIn ok w l v) (hk : ∀ b, ok b → ok' b) : LIn ok' w l v := by
  obtain ⟨L, e, h⟩ := h; exact ⟨L, e, h.wide hk⟩
theorem LIn.form {ok : Nat → Prop} {w : World} {l : List Lt} {v : Value} (h : LIn ok w l v) : ∃ p c, v = .slice p l.length c := by
  obtain ⟨L, rfl, p, c, e, _⟩ := h
  exact ⟨p, c, by rw [e]; simp⟩
theorem LIn.nil (ok : Nat → Prop) (w : World) : LIn ok w [] (.slice none 0 0) := ⟨[], rfl, RowG.nil _ _⟩
/-- Rules. -/
def KR : Kd (Rl × Value × Value) where
  ty := 27
  cells x := [.string x.1.1.nm, x.2.1, x.2.2]
  inn ok w x := SlIn ok w x.1.1.args x.2.1 ∧ x.1.1.nm.size ≤ maxLen ∧ LIn ok w x.1.2 x.2.2
  len _ := rfl
  keep h hf := ⟨h.1.frame hf, h.2.1, h.2.2.keep hf⟩
  wide h hk := ⟨h.1.weaken hk, h.2.1, h.2.2.wide hk⟩
def RIn (ok : Nat → Prop) (w : World) (l : List Rl) (v : Value) : Prop := ∃ L : List (Rl × Value × Value), L.map (·.1) = l ∧ RowG KR ok w L v
theorem RIn.keep {ok : Nat → Prop} {w w' : World} {l : List Rl} {v : Value} (h : RIn ok w l v) (hf : ∀ b o, ok b → w'.cell? ⟨b, o, none⟩ = w.cell? ⟨b, o, none⟩) : RIn ok w' l v := by
  obtain ⟨L, e, h⟩ := h; exact ⟨L, e, h.keep hf⟩
theorem RIn.wide {ok ok' : Nat → Prop} {w : World} {l : List Rl} {v : Value} (h : RIn ok w l v) (hk : ∀ b, ok b → ok' b) : RIn ok' w l v := by
  obtain ⟨L, e, h⟩ := h; exact ⟨L, e, h.wide hk⟩
theorem RIn.form {ok : Nat → Prop} {w : World} {l : List Rl} {v : Value} (h : RIn ok w l v) : ∃ p c, v = .slice p l.length c := by
  obtain ⟨L, rfl, p, c, e, _⟩ := h
  exact ⟨p, c, by rw [e]; simp⟩
theorem Tryz.infoL : (Tryz.prog.info? 47).map (fun i => (i.zero, i.size, i.bytes)) = some (some (.agg #[.bool false, .string ⟨#[]⟩, .slice none 0 0]), 3, 48) := by kernel_rfl
theorem Tryz.infoR : (Tryz.prog.info? 27).map (fun i => (i.zero, i.size, i.bytes)) = some (some (.agg #[.string ⟨#[]⟩, .slice none 0 0, .slice none 0 0]), 3, 64) := by kernel_rfl
theorem newsK (w : World) (a b c : Value) (t : TypeId) : ∀ j u, [a, b, c][j]? = some u → (w.alloc (.cells #[a, b, c] t)).cell? ((⟨w.heap.size, 0, none⟩ : Addr).add j) = some u := World.news_of_block (heap_alloc_new w _)
theorem one_L (b : Bool) (a : ByteArray) (p : Option Addr) (n c : Nat) : ∀ u ∈ [Value.bool b, .string a, .slice p n c], u.oneCell' = true := by
  intro u hu
  simp at hu
  rcases hu with rfl | rfl | rfl <;> rfl
theorem one_R (a : ByteArray) (p q : Option Addr) (n c m d : Nat) : ∀ u ∈ [Value.string a, .slice p n c, .slice q m d], u.oneCell' = true := by
  intro u hu
  simp at hu
  rcases hu with rfl | rfl | rfl <;> rfl
/-- Bindings. -/
def KB : Kd (Bd × Value) where
  ty := 69
  cells x := [.string x.1.1, .string x.1.2.nm, x.2]
  inn ok w x := SlIn ok w x.1.2.args x.2 ∧ x.1.2.nm.size ≤ maxLen ∧ x.1.1.size ≤ maxLen
  len _ := rfl
  keep h hf := ⟨h.1.frame hf, h.2⟩
  wide h hk := ⟨h.1.weaken hk, h.2⟩
def SIn (ok : Nat → Prop) (w : World) (l : List Bd) (v : Value) : Prop := ∃ L : List (Bd × Value), L.map (·.1) = l ∧ RowG KB ok w L v
theorem SIn.keep {ok : Nat → Prop} {w w' : World} {l : List Bd} {v : Value} (h : SIn ok w l v) (hf : ∀ b o, ok b → w'.cell? ⟨b, o, none⟩ = w.cell? ⟨b, o, none⟩) : SIn ok w' l v := by
  obtain ⟨L, e, h⟩ := h; exact ⟨L, e, h.keep hf⟩
theorem SIn.wide {ok ok' : Nat → Prop} {w : World} {l : List Bd} {v : Value} (h : SIn ok w l v) (hk : ∀ b, ok b → ok' b) : SIn ok' w l v := by
  obtain ⟨L, e, h⟩ := h; exact ⟨L, e, h.wide hk⟩
theorem SIn.form {ok : Nat → Prop} {w : World} {l : List Bd} {v : Value} (h : SIn ok w l v) : ∃ p c, v = .slice p l.length c := by
  obtain ⟨L, rfl, p, c, e, _⟩ := h
  exact ⟨p, c, by rw [e]; simp⟩
theorem SIn.nil (ok : Nat → Prop) (w : World) : SIn ok w [] (.slice none 0 0) := ⟨[], rfl, RowG.nil _ _⟩
theorem SIn.gr {B : Nat} {w w' : World} {l : List Bd} {v : Value} (h : SIn (· < B) w l v) (g : Gr w w') (hB : B ≤ w.heap.size) : SIn (· < B) w' l v := h.keep fun _ _ hb => g.cell (Nat.lt_of_lt_of_le hb hB)
theorem SIn.deep {B B' : Nat} {w w' : World} {l : List Bd} {v : Value} (h : SIn (· < B) w l v) (hb : Below B' w w') (hB : B ≤ B') : SIn (· < B) w' l v := h.keep fun _ _ hlt => hb.cell (p := ⟨_, _, none⟩) (Nat.lt_of_lt_of_le hlt hB)
/-- The bindings of a list, three cells each. -/
def RowS (B : Nat) (w : World) (l : List Bd) (p : Option Addr) : Prop := ∀ k, k < l.length → ∃ t b o q d, l[k]? = some t ∧ p = some ⟨b, o, none⟩ ∧ b < B ∧ w.cell? ⟨b, o + k * 3, none⟩ = some (.string t.1) ∧ w.cell? ⟨b, o + k * 3 + 1, none⟩ = some (.string t.2.nm) ∧
  w.cell? ⟨b, o + k * 3 + 1 + 1, none⟩ = some (.slice q t.2.args.length d) ∧ SlIn (· < B) w t.2.args (.slice q t.2.args.length d) ∧ t.2.nm.size ≤ maxLen ∧ t.1.size ≤ maxLen
theorem SIn.row {B : Nat} {w : World} {l : List Bd} {v : Value} (h : SIn (· < B) w l v) : ∃ p c, v = .slice p l.length c ∧ l.length ≤ c ∧ c ≤ maxLen ∧ RowS B w l p := by
  obtain ⟨L, rfl, p, c, e, h1, h2, h3, h4⟩ := h
  refine ⟨p, c, by rw [e]; simp, by simpa using h1, h2, fun k hk => ?_⟩
  have hk' : k < L.length := by simpa using hk
  obtain ⟨g, o, e1, e2, e3⟩ := h4 (by omega)
  obtain ⟨x, hx⟩ : ∃ x, L[k]? = some x := ⟨L[k], by simp [hk']⟩
  obtain ⟨s1, s2, s3⟩ := h3 x (List.mem_of_getElem? hx)
  obtain ⟨q, d, eq⟩ := s1.form
  refine ⟨x.1, g, o, q, d, by simp [hx], e1, e2, e3 k x hx 0 _ rfl, e3 k x hx 1 _ rfl, ?_, by rw [← eq]; exact s1, s2, s3⟩
  rw [← eq]
  exact e3 k x hx 2 _ rfl
theorem RowS.gr {B : Nat} {w w' : World} {l : List Bd} {p : Option Addr} (h : RowS B w l p) (g : Gr w w') (hB : B ≤ w.heap.size) : RowS B w' l p := fun k hk => by
  obtain ⟨t, b, o, q, d, h1, h2, h3, h4, h5, h6, h7, h8⟩ := h k hk
  exact ⟨t, b, o, q, d, h1, h2, h3, (g.cell (Nat.lt_of_lt_of_le h3 hB)).trans h4, (g.cell (Nat.lt_of_lt_of_le h3 hB)).trans h5, (g.cell (Nat.lt_of_lt_of_le h3 hB)).trans h6, h7.gr g hB, h8⟩
theorem RowS.deep {B B' : Nat} {w w' : World} {l : List Bd} {p : Option Addr} (h : RowS B w l p) (g : Below B' w w') (hB : B ≤ B') : RowS B w' l p := fun k hk => by
  obtain ⟨t, b, o, q, d, h1, h2, h3, h4, h5, h6, h7, h8⟩ := h k hk
  have hb : b < B' := Nat.lt_of_lt_of_le h3 hB
  exact ⟨t, b, o, q, d, h1, h2, h3, (g.cell (p := ⟨b, _, none⟩) hb).trans h4, (g.cell (p := ⟨b, _, none⟩) hb).trans h5, (g.cell (p := ⟨b, _, none⟩) hb).trans h6, h7.deep g hB, h8⟩
end UniK
end Go.Proofs.YtdkpflojdnkbnaaGreatDoor
/- Valid of substitutions, code and reference; made by genunia.py. No conditions on sizes. -/
namespace Go.Proofs.YtdkpflojdnkbnaaGreatDoor
open Go Go.RowKit
namespace UniA
open LexM TermM TermI Kit TermN TermU UniK UniM
theorem gr_dr {a b : World} (h : Gr a b) : Gr a b.drew := h.trans (Gr.drew b)
theorem three {w : World} {g : Nat} {a b c : Value} (h : Has w g #[a, b, c]) : w.cell? ⟨g, 0, none⟩ = some a ∧ w.cell? ⟨g, 1, none⟩ = some b ∧ w.cell? ⟨g, 2, none⟩ = some c := ⟨h.cell 0, h.cell 1, h.cell 2⟩
end UniA
end Go.Proofs.YtdkpflojdnkbnaaGreatDoor
/- find: binary search among bindings by the variable's name. Condition: at most 3000000 bindings, whose names are sorted around the one that is sought. -/
namespace Go.Proofs.YtdkpflojdnkbnaaGreatDoor
open Go Go.RowKit
namespace UniC
open LexM TermM TermI Kit TermN TermU TermO UniK UniM UniA
theorem cmpf_any (b : Bd) (sv : Value) (u : ByteArray) (w : World) :
    Calls Tryz.prog 177 #[.agg #[.string b.1, .string b.2.nm, sv], .string u] w fun e w' => e = .returned (.int .i64 (lexB b.1.data.toList u.data.toList)) ∧ Gr w w' := by
  have C := Lib.hid (fun w' => cmpS_any b.1 u w')
  generalize lexB b.1.data.toList u.data.toList = z at *
  go_enter Tryz.func177, Tryz.ntmps177
  go_wp2_with fail
  refine (C.out _).mono ?_
  rintro e w' ⟨rfl, rfl⟩
  go_wp2_with fail
  go_ret
  exact ⟨rfl, Gr.alloc _ _⟩
def FoundS (s : List Bd) (u : ByteArray) (w : World) (e : Ending) (w' : World) : Prop :=
  (∃ (i : Nat) (f : Bool), i ≤ s.length ∧ e = .returned (.tuple #[.int .i64 i, .bool f]) ∧ (∀ (j : Nat) (y : Bd), j < i → s[j]? = some y → lexB y.1.data.toList u.data.toList < 0) ∧ (∀ (j : Nat) (y : Bd), i ≤ j → s[j]? = some y → 0 ≤ lexB y.1.data.toList u.data.toList) ∧ (f = true ↔ ∃ y, s[i]? = some y ∧ lexB y.1.data.toList u.data.toList = 0)) ∧ Gr w w'
set_option maxRecDepth 100000 in
set_option maxHeartbeats 3200000 in
theorem bs_any (s : List Bd) (u : ByteArray) (hS : ∀ (i j : Nat) (x y : Bd), i < j → s[i]? = some x → s[j]? = some y → lexB y.1.data.toList u.data.toList < 0 → lexB x.1.data.toList u.data.toList < 0) (hlen : s.length ≤ 3000000)
    (B : Nat) (w : World) (v : Value) (hB : B ≤ w.heap.size) (h : SIn (· < B) w s v) :
    Calls Tryz.prog 176 #[v, .string u, .func (.func 177) #[] #[]] w (FoundS s u w) := by
  obtain ⟨p, c, rfl, hc, hm, hR⟩ := SIn.row h
  have HR := Lib.hid hR
  have HB := Lib.hid hB
  have HS := Lib.hid hS
  unfold FoundS
  generalize hlm : s.length = m at *
  have HM := Lib.hid hlm
  have KALL := Lib.hid (fun wr (dw : Gr w wr) (k : Nat) (hlt : k < m) => by
    obtain ⟨x, b, o, q, d, hx, hp, hb, c1, c2, c3, _⟩ := (HR.out.gr dw HB.out) k (by rw [HM.out]; exact hlt)
    exact (⟨x, b, o, q, x.2.args.length, d, x.1, x.2.nm, hx, hp, c1, c2, c3, fun w2 => cmpf_any x _ u w2⟩ :
      ∃ (x : Bd) (b o : Nat) (q : Option Addr) (xa d : Nat) (xv xn : ByteArray), s[k]? = some x ∧ p = some ⟨b, o, none⟩ ∧ wr.cell? ⟨b, o + k * 3, none⟩ = some (.string xv) ∧ wr.cell? ⟨b, o + k * 3 + 1, none⟩ = some (.string xn) ∧ wr.cell? ⟨b, o + k * 3 + 1 + 1, none⟩ = some (.slice q xa d) ∧
        ∀ w2, Calls Tryz.prog 177 #[.agg #[.string xv, .string xn, .slice q xa d], .string u] w2 fun e w' => e = .returned (.int .i64 (lexB x.1.data.toList u.data.toList)) ∧ Gr w2 w'))
  clear hR h hc hm hlm hS hB HR
  go_enter Tryz.func176, Tryz.ntmps176
  go_wp2_with fail
  go_loopw [9, 10] (fun i j wr => ∃ lo hi : Nat, lo ≤ hi ∧ hi ≤ m ∧ i = .int .i64 lo ∧ j = .int .i64 hi ∧ Hid (∀ (j : Nat) (y : Bd), j < lo → s[j]? = some y → lexB y.1.data.toList u.data.toList < 0) ∧ Hid (∀ (j : Nat) (y : Bd), hi ≤ j → s[j]? = some y → 0 ≤ lexB y.1.data.toList u.data.toList) ∧ Hid (Gr w wr)) (fun i j _ => (intOf j).toNat - (intOf i).toNat)
  case atStart => exact ⟨0, m, Nat.zero_le _, Nat.le_refl _, rfl, rfl, Lib.hid (fun j y hj => absurd hj (Nat.not_lt_zero _)), Lib.hid (fun j y hj hy => by
    have h1 := (List.getElem?_eq_some_iff.1 hy).1
    have h2 := HM.out
    omega), Lib.hid (Gr.refl _)⟩
  case round =>
    obtain ⟨lo, hi, hlh, hhm, rfl, rfl, hA, hZ, hg⟩ := hrel
    by_cases hlt : lo < hi
    · obtain ⟨q0, hq0⟩ : ∃ q0, q0 = (lo + hi) / 2 := ⟨_, rfl⟩
      have e1 : ((lo : Int) + (hi : Int)) / 2 = (q0 : Int) := by omega
      have hq1 : lo ≤ q0 := by omega
      have hq2 : q0 < hi := by omega
      have hq3 : q0 < m := by omega
      obtain ⟨x, b, o, q, xa, d, xv, xn, hx, rfl, c1, c2, c3, KK0⟩ := KALL.out wr hg.out q0 hq3
      have KK := Lib.hid KK0
      have HX := Lib.hid hx
      clear KK0 hx hq0
      generalize hz : lexB x.1.data.toList u.data.toList = z at KK
      have HZ := Lib.hid hz
      clear hz
      clear KALL
      go_wp2_with fail
      refine (KK.out _).mono ?_
      rintro e w3 ⟨rfl, g3⟩
      have G3 := Lib.hid (hg.out.trans g3)
      clear g3 KK c1 c2 c3
      by_cases hz0 : z < 0
      · have HA2 : Hid (∀ (j : Nat) (y : Bd), j < q0 + 1 → s[j]? = some y → lexB y.1.data.toList u.data.toList < 0) := Lib.hid (fun j y hj hy => by
          have h1 := HZ.out
          by_cases e : j = q0
          · subst e; rw [HX.out] at hy; injection hy with hy; subst hy; omega
          · exact HS.out j q0 y x (by omega) hy HX.out (by omega))
        go_wp2_with fail
        go_roundw
        case rel => exact ⟨q0 + 1, hi, by omega, hhm, by go_num, rfl, HA2, hZ, G3⟩
        case measure => simp [intOf]; omega
      · have HZ2 : Hid (∀ (j : Nat) (y : Bd), q0 ≤ j → s[j]? = some y → 0 ≤ lexB y.1.data.toList u.data.toList) := Lib.hid (fun j y hj hy => by
          have h1 := HZ.out
          by_cases e : j = q0
          · subst e; rw [HX.out] at hy; injection hy with hy; subst hy; omega
          · have h2 := HS.out q0 j x y (by omega) HX.out hy
            omega)
        go_wp2_with fail
        go_roundw
        case rel => exact ⟨lo, q0, hq1, by omega, rfl, rfl, hA, HZ2, G3⟩
        case measure => simp [intOf]; omega
    · obtain rfl : lo = hi := by omega
      by_cases hlm : lo < m
      · obtain ⟨x, b, o, q, xa, d, xv, xn, hx, rfl, c1, c2, c3, KK0⟩ := KALL.out wr hg.out lo hlm
        have KK := Lib.hid KK0
        have HX := Lib.hid hx
        clear KK0 hx
        generalize hz : lexB x.1.data.toList u.data.toList = z at KK
        have HZ := Lib.hid hz
        clear hz
        obtain ⟨zb, hzb⟩ : ∃ zb, (z == 0) = zb := ⟨_, rfl⟩
        have HF : Hid (zb = true ↔ ∃ y, s[lo]? = some y ∧ lexB y.1.data.toList u.data.toList = 0) := Lib.hid (by
          rw [← hzb, beq_iff_eq]
          constructor
          · intro hh; exact ⟨x, HX.out, by rw [HZ.out]; exact hh⟩
          · rintro ⟨y, hy, hh⟩
            rw [HX.out] at hy; injection hy with hy; subst hy
            rw [← HZ.out]; exact hh)
        clear KALL HZ
        go_wp2_with fail
        refine (KK.out _).mono ?_
        rintro e w3 ⟨rfl, g3⟩
        have G3 := Lib.hid (hg.out.trans g3)
        clear g3 KK c1 c2 c3
        go_wp2_with fail
        go_ret2
        exact ⟨⟨lo, zb, by omega, rfl, hA.out, hZ.out, HF.out⟩, G3.out⟩
      · obtain rfl : lo = m := by omega
        have HF : Hid (false = true ↔ ∃ y, s[lo]? = some y ∧ lexB y.1.data.toList u.data.toList = 0) := Lib.hid (by
          constructor
          · intro hh; cases hh
          · rintro ⟨y, hy, _⟩
            have h1 := (List.getElem?_eq_some_iff.1 hy).1
            have h2 := HM.out
            omega)
        clear KALL
        go_wp2_with fail
        go_ret2
        exact ⟨⟨lo, false, by omega, rfl, hA.out, hZ.out, HF.out⟩, hg.out⟩
/-- Sorted by the variables' names, as a valid substitution is. -/
def Srt (s : List Bd) : Prop := ∀ (i j : Nat) (x y : Bd), i < j → s[i]? = some x → s[j]? = some y → lexB x.1.data.toList y.1.data.toList < 0
theorem srt_around {s : List Bd} (h : Srt s) (u : ByteArray) : ∀ (i j : Nat) (x y : Bd), i < j → s[i]? = some x → s[j]? = some y → lexB y.1.data.toList u.data.toList < 0 → lexB x.1.data.toList u.data.toList < 0 := fun i j x y hij hx hy h2 => by
  have h1 := h i j x y hij hx hy
  exact (tri_lex x.1.data.toList y.1.data.toList u.data.toList).2.1 h1 (by omega)
theorem find_any (s : List Bd) (u : ByteArray) (hS : Srt s) (hlen : s.length ≤ 3000000) (B : Nat) (w : World) (v : Value) (hB : B ≤ w.heap.size) (h : SIn (· < B) w s v) :
    Calls Tryz.prog 149 #[v, .string u] w (FoundS s u w) := by
  have C := Lib.hid (bs_any s u (srt_around hS u) hlen B w v hB h)
  obtain ⟨p, c, rfl⟩ := h.form
  clear h hS
  unfold FoundS at C ⊢
  generalize s.length = n at *
  go_enter Tryz.func149, Tryz.ntmps149
  go_wp2_with fail
  refine C.out.mono ?_
  rintro e w2 ⟨⟨i, f, h1, rfl, h2, h3, h4⟩, g⟩
  have H := Lib.hid (And.intro h2 (And.intro h3 h4))
  have G := Lib.hid g
  clear h2 h3 h4 g C
  go_wp2_with fail
  go_ret2
  exact ⟨⟨i, f, h1, rfl, H.out.1, H.out.2.1, H.out.2.2⟩, G.out⟩
end UniC
end Go.Proofs.YtdkpflojdnkbnaaGreatDoor
