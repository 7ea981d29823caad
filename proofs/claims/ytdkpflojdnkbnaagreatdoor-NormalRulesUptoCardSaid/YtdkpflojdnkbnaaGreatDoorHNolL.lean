/- Rows of rows of numbers in memory, and all orders of the numbers 1 to n as plain data. No conditions. -/
import Derived.Test.YtdkpflojdnkbnaaGreatDoorHAE
import Derived.Test.YtdkpflojdnkbnaaGreatDoorHAN
namespace Go.Proofs.YtdkpflojdnkbnaaGreatDoor
open Go Go.RowKit
namespace NolL
open Kit LexM TermM TermI TermU UniK UniM UniD UniE NorM NorP NorQ NorR
/-! ### Plain orders -/
/-- One order with the next number at the places before k. -/
def insA (m k : Nat) (x : List Nat) : List (List Nat) := (List.range k).map fun j => x.take j ++ (m + 1) :: x.drop j
def ordP : Nat → List (List Nat)
  | 0 => [[]]
  | n + 1 => (ordP n).flatMap (insA n (n + 1))
def ordK (n i : Nat) : List (List Nat) := ((ordP n).take i).flatMap (insA n (n + 1))
theorem insA_next (m k : Nat) (x : List Nat) : insA m (k + 1) x = insA m k x ++ [x.take k ++ (m + 1) :: x.drop k] := by
  unfold insA
  rw [List.range_succ, List.map_append]
  rfl
theorem ordK_zero (n : Nat) : ordK n 0 = [] := rfl
theorem ordK_next {n i : Nat} {x : List Nat} (h : (ordP n)[i]? = some x) : ordK n (i + 1) = ordK n i ++ insA n (n + 1) x := by
  unfold ordK
  rw [List.take_add_one, h, List.flatMap_append]
  simp
theorem ordK_all {n i : Nat} (h : i = (ordP n).length) : ordK n i = ordP (n + 1) := by
  unfold ordK
  rw [List.take_of_length_le (by omega)]
  rfl
theorem insA_len (m k : Nat) (x : List Nat) : (insA m k x).length = k := by simp [insA]
theorem ordK_len (n : Nat) : ∀ i, (ordK n i).length ≤ i * (n + 1)
  | 0 => by simp [ordK]
  | i + 1 => by
    have ih := ordK_len n i
    by_cases h : i < (ordP n).length
    · rw [ordK_next (x := (ordP n)[i]) (by simp [h]), List.length_append, insA_len, Nat.add_mul]
      omega
    · have e : ordK n (i + 1) = ordK n i := by unfold ordK; rw [List.take_of_length_le (by omega), List.take_of_length_le (by omega)]
      rw [e, Nat.add_mul]
      omega
theorem ordP_len : ∀ n, n ≤ 5 → (ordP n).length ≤ 120
  | 0, _ => by decide
  | 1, _ => by decide
  | 2, _ => by decide
  | 3, _ => by decide
  | 4, _ => by decide
  | 5, _ => by decide +kernel
  | n + 6, h => by omega
theorem ordP_pos : ∀ n, 0 < (ordP n).length
  | 0 => by simp [ordP]
  | n + 1 => by
    have := ordP_pos n
    rw [← ordK_all (n := n) (i := (ordP n).length) rfl]
    obtain ⟨x, hx⟩ : ∃ x, (ordP n)[0]? = some x := ⟨(ordP n)[0], by simp [this]⟩
    have h1 : ordK n 1 = ordK n 0 ++ insA n (n + 1) x := ordK_next hx
    have h2 : (ordK n 1).length ≤ (ordK n (ordP n).length).length := by
      unfold ordK
      rw [List.length_flatMap, List.length_flatMap]
      have : ((ordP n).take (ordP n).length) = (ordP n).take 1 ++ (ordP n).drop 1 := by rw [List.take_length, List.take_append_drop]
      rw [this, List.map_append, List.sum_append]
      omega
    rw [h1, List.length_append, insA_len] at h2
    omega
def upto (n : Nat) : List Nat := (List.range n).map (· + 1)
theorem upto_next (n : Nat) : upto (n + 1) = upto n ++ [n + 1] := by unfold upto; rw [List.range_succ, List.map_append]; rfl
theorem mem_insA {m k : Nat} {x y : List Nat} : y ∈ insA m k x ↔ ∃ j, j < k ∧ y = x.take j ++ (m + 1) :: x.drop j := by
  unfold insA
  rw [List.mem_map]
  constructor
  · rintro ⟨j, hj, rfl⟩; exact ⟨j, List.mem_range.1 hj, rfl⟩
  · rintro ⟨j, hj, rfl⟩; exact ⟨j, List.mem_range.2 hj, rfl⟩
theorem ord_iff : ∀ (n : Nat) (x : List Nat), x ∈ ordP n ↔ x.Perm (upto n)
  | 0, x => by simp [ordP, upto]
  | n + 1, x => by
    have ih := ord_iff n
    unfold ordP
    rw [List.mem_flatMap, upto_next]
    constructor
    · rintro ⟨y, hy, hx⟩
      obtain ⟨j, _, rfl⟩ := mem_insA.1 hx
      refine List.perm_middle.trans ?_
      rw [List.take_append_drop]
      exact (((ih y).1 hy).cons _).trans (List.perm_append_singleton _ _).symm
    · intro h
      have hm : n + 1 ∈ x := h.symm.subset (by simp)
      obtain ⟨s, t, rfl⟩ := List.append_of_mem hm
      have h2 : ((n + 1) :: (s ++ t)).Perm ((n + 1) :: upto n) := List.perm_middle.symm.trans (h.trans (List.perm_append_singleton _ _))
      have h3 := h2.cons_inv
      have hl := h3.length_eq
      simp only [List.length_append, upto, List.length_map, List.length_range] at hl
      refine ⟨s ++ t, (ih _).2 h3, mem_insA.2 ⟨s.length, by omega, by simp⟩⟩
theorem ord_len {n : Nat} {x : List Nat} (h : x ∈ ordP n) : x.length = n := by
  have := ((ord_iff n x).1 h).length_eq
  simpa [upto] using this
theorem ord_le {n : Nat} {x : List Nat} (h : x ∈ ordP n) : ∀ y ∈ x, 1 ≤ y ∧ y ≤ n := fun y hy => by
  have := ((ord_iff n x).1 h).subset hy
  unfold upto at this
  obtain ⟨j, hj, rfl⟩ := List.mem_map.1 this
  have := List.mem_range.1 hj
  omega
theorem perm_inv {α β : Type} {f : α → β} {u v : List β} (h : u.Perm v) : ∀ l : List α, v = l.map f → ∃ l' : List α, l'.Perm l ∧ u = l'.map f := by
  induction h with
  | nil => intro l e; exact ⟨l, List.Perm.refl _, e⟩
  | cons a _ ih =>
    intro l e
    cases l with
    | nil => simp at e
    | cons b l =>
      simp only [List.map_cons, List.cons.injEq] at e
      obtain ⟨l', h1, h2⟩ := ih l e.2
      exact ⟨b :: l', h1.cons b, by rw [List.map_cons, e.1, h2]⟩
  | swap a b l0 =>
    intro l e
    match l, e with
    | [], e => simp at e
    | [_], e => simp at e
    | c :: d :: l, e =>
      simp only [List.map_cons, List.cons.injEq] at e
      exact ⟨d :: c :: l, List.Perm.swap _ _ _, by simp only [List.map_cons]; rw [← e.1, ← e.2.1, ← e.2.2]⟩
  | trans _ _ ih1 ih2 =>
    intro l e
    obtain ⟨l1, h1, h2⟩ := ih2 l e
    obtain ⟨l2, h3, h4⟩ := ih1 l1 h2
    exact ⟨l2, h3.trans h1, h4⟩
/-- The term that stands for the number i. -/
def nmT (i : Nat) : Tm := .mk (⟨#[86]⟩ ++ ⟨#[UInt8.ofNat (48 + i)]⟩) []
theorem vts_upto (n : Nat) : vTs n = (upto n).map nmT := by
  unfold vTs upto
  rw [List.map_map]
  refine List.map_congr_left fun k _ => ?_
  have e : 48 + (k + 1) = 49 + k := by omega
  show Tm.mk _ [] = Tm.mk (⟨#[86]⟩ ++ ⟨#[UInt8.ofNat (48 + (k + 1))]⟩) []
  rw [e]
  congr 1
theorem ord_terms (n : Nat) (u : List Tm) : u ∈ (ordP n).map (fun x => x.map nmT) ↔ u.Perm (vTs n) := by
  rw [vts_upto, List.mem_map]
  constructor
  · rintro ⟨x, hx, rfl⟩
    exact ((ord_iff n x).1 hx).map nmT
  · intro h
    obtain ⟨l, h1, h2⟩ := perm_inv h (upto n) rfl
    exact ⟨l, (ord_iff n l).2 h1, h2.symm⟩
/-! ### Rows of numbers, and rows of them -/
def ints (x : List Nat) : List Value := x.map fun (y : Nat) => Value.int .i64 (y : Int)
/-- A slice of numbers in blocks of a kind. -/
def IIn (ok : Nat → Prop) (w : World) (x : List Nat) (v : Value) : Prop :=
  ∃ p c, v = .slice p x.length c ∧ x.length ≤ c ∧ c ≤ maxLen ∧ (x.length = 0 → p = none ∧ c = 0) ∧ (0 < x.length → ∃ g, p = some ⟨g, 0, none⟩ ∧ ok g ∧ ∀ (k y : Nat), x[k]? = some y → w.cell? ⟨g, k, none⟩ = some (.int .i64 (y : Int)))
def hdrs (L : List (List Nat × Value)) : List Value := L.map (·.2)
/-- A row of the call's own of slices of numbers, which lie in other blocks from base on. -/
def OwnI (base : Nat) (w : World) (L : List (List Nat × Value)) (v : Value) : Prop :=
  w.ownsRow base 67 1 v L.length (hdrs L) ∧ ∃ ok : Nat → Prop, (∀ b, ok b → base ≤ b ∧ b < w.heap.size ∧ v.ownBlock ≠ some b) ∧ ∀ x ∈ L, IIn ok w x.1 x.2
def RowI (ok : Nat → Prop) (w : World) (L : List (List Nat × Value)) (v : Value) : Prop :=
  ∃ p c, v = .slice p L.length c ∧ L.length ≤ c ∧ c ≤ maxLen ∧ (∀ x ∈ L, IIn ok w x.1 x.2) ∧ (0 < L.length → ∃ g, p = some ⟨g, 0, none⟩ ∧ ok g ∧ ∀ i x, L[i]? = some x → w.cell? ⟨g, i, none⟩ = some x.2)
theorem IIn.keep {ok : Nat → Prop} {w w' : World} {x : List Nat} {v : Value} (h : IIn ok w x v) (hf : ∀ b o, ok b → w'.cell? ⟨b, o, none⟩ = w.cell? ⟨b, o, none⟩) : IIn ok w' x v := by
  obtain ⟨p, c, h1, h2, h3, h4, h5⟩ := h
  refine ⟨p, c, h1, h2, h3, h4, fun hl => ?_⟩
  obtain ⟨g, e1, e2, e3⟩ := h5 hl
  exact ⟨g, e1, e2, fun k y hy => (hf _ _ e2).trans (e3 k y hy)⟩
theorem IIn.wide {ok ok' : Nat → Prop} {w : World} {x : List Nat} {v : Value} (h : IIn ok w x v) (hk : ∀ b, ok b → ok' b) : IIn ok' w x v := by
  obtain ⟨p, c, h1, h2, h3, h4, h5⟩ := h
  refine ⟨p, c, h1, h2, h3, h4, fun hl => ?_⟩
  obtain ⟨g, e1, e2, e3⟩ := h5 hl
  exact ⟨g, e1, hk _ e2, e3⟩
theorem IIn.form {ok : Nat → Prop} {w : World} {x : List Nat} {v : Value} (h : IIn ok w x v) : ∃ p c, v = .slice p x.length c := by
  obtain ⟨p, c, h1, _⟩ := h
  exact ⟨p, c, h1⟩
theorem part_ints {w : World} {gx : Nat} {x : List Nat} (h : ∀ (k y : Nat), x[k]? = some y → w.cell? ⟨gx, k, none⟩ = some (.int .i64 (y : Int))) (i : Nat) (M : List Nat) (hM : ∃ s, x.drop i = M ++ s) :
    ∀ j u, (ints M)[j]? = some u → w.cell? ((⟨gx, i, none⟩ : Addr).add j) = some u := by
  intro j u hu
  obtain ⟨s, hs⟩ := hM
  unfold ints at hu
  rw [List.getElem?_map] at hu
  obtain ⟨y, hy, rfl⟩ := Option.map_eq_some_iff.1 hu
  have hj := (List.getElem?_eq_some_iff.1 hy).1
  have hx : x[i + j]? = some y := by
    rw [← List.getElem?_drop, hs, List.getElem?_append_left hj]
    exact hy
  have := h _ _ hx
  by_cases h0 : j = 0
  · subst h0
    simpa [Addr.add] using this
  · simpa [Addr.add, h0] using this
theorem one_ints (x : List Nat) : ∀ u ∈ ints x, u.oneCell' = true := by
  intro u hu
  unfold ints at hu
  obtain ⟨y, _, rfl⟩ := List.mem_map.1 hu
  rfl
theorem ints_len (x : List Nat) : (ints x).length = x.length := by simp [ints]
theorem IIn.nil (ok : Nat → Prop) (w : World) : IIn ok w [] (.slice none 0 0) := ⟨none, 0, rfl, Nat.le_refl _, Nat.zero_le _, fun _ => ⟨rfl, rfl⟩, fun h => by simp at h⟩
/-- An own row of numbers is such a slice. -/
theorem IIn.own {base : Nat} {w : World} {x : List Nat} {v : Value} (h : w.ownsRow base 3 1 v x.length (ints x)) (h0 : 0 < x.length) : IIn (fun b => base ≤ b ∧ b < w.heap.size ∧ v.ownBlock = some b) w x v := by
  have hl := h.lt
  rcases h.2 with ⟨e, hz⟩ | ⟨g, cap, cur, e, e2, e3, e4, e5, _⟩
  · omega
  · subst e
    refine ⟨_, cap, rfl, e4, e5, fun h => by omega, fun _ => ⟨g, rfl, ⟨(hl g rfl).1, (hl g rfl).2, rfl⟩, fun k y hy => ?_⟩⟩
    have hk := (List.getElem?_eq_some_iff.1 hy).1
    have e6 : (ints x)[k]? = some (.int .i64 (y : Int)) := by unfold ints; rw [List.getElem?_map, hy]; rfl
    exact (h.cellAt k (by omega)).trans e6
theorem OwnI.nil (base : Nat) (w : World) : OwnI base w [] (.slice none 0 0) :=
  ⟨⟨rfl, Or.inl ⟨rfl, rfl⟩⟩, fun _ => False, fun b h => h.elim, fun x h => by simp at h⟩
theorem OwnI.form {base : Nat} {w : World} {L : List (List Nat × Value)} {v : Value} (h : OwnI base w L v) : ∃ a c, v = .slice a L.length c := by
  rcases h.1.2 with ⟨e, hz⟩ | ⟨g, cap, cur, e, _⟩
  · exact ⟨none, 0, by rw [e, hz]⟩
  · exact ⟨_, cap, e⟩
theorem OwnI.below {base : Nat} {w w' : World} {L : List (List Nat × Value)} {v : Value} (h : OwnI base w L v) (g : Below w.heap.size w w') : OwnI base w' L v := by
  obtain ⟨h1, ok, h2, h3⟩ := h
  have hl := h1.lt
  refine ⟨⟨h1.1, ?_⟩, ok, fun b hk => ⟨(h2 b hk).1, Nat.lt_of_lt_of_le (h2 b hk).2.1 g.size, (h2 b hk).2.2⟩, fun x hx => (h3 x hx).keep fun b o hk => g.cell (p := ⟨b, o, none⟩) (h2 b hk).2.1⟩
  rcases h1.2 with h | ⟨k, cap, cur, e1, e2, e3, e4⟩
  · exact Or.inl h
  · exact Or.inr ⟨k, cap, cur, e1, e2, (g.block k (hl k (by rw [e1]; rfl)).2).trans e3, e4⟩
/-- The row with one slice more, made since in new blocks. -/
theorem OwnI.add {base : Nat} {w2 w3 : World} {L : List (List Nat × Value)} {v : Value} {o : Obj} {lo g cap : Nat} {x : List Nat × Value} (h : OwnI base w2 L v) (hs : IIn (fun b => lo ≤ b ∧ b < w2.heap.size) w2 x.1 x.2) (hlo : base ≤ lo) (hv : ∀ k, v.ownBlock = some k → k < lo)
    (hown : w3.ownsRow base 67 1 (.slice (some ⟨g, 0, none⟩) (L.length + 1) cap) (L.length + 1) (hdrs L ++ [x.2])) (hgrow : (w2.alloc o).grownBy w3 v.ownBlock) (hat : v.ownBlock = some g ∨ g = w2.heap.size + 1) :
    OwnI base w3 (L ++ [x]) (.slice (some ⟨g, 0, none⟩) (L.length + 1) cap) := by
  obtain ⟨h1, ok, h2, h3⟩ := h
  have hsz : w2.heap.size + 1 ≤ w3.heap.size := by have := hgrow.size; simpa using this
  have fr : ∀ b o, b < w2.heap.size → v.ownBlock ≠ some b → w3.cell? ⟨b, o, none⟩ = w2.cell? ⟨b, o, none⟩ := fun b o hb hne => by
    refine World.cell?_of_block (w := w2) (a := ⟨b, o, none⟩) ?_
    exact (hgrow.block b (by simp; omega) (fun e => hne e.symm)).trans (Below.heap_alloc _ _ _ hb)
  refine ⟨by rw [List.length_append, show hdrs (L ++ [x]) = hdrs L ++ [x.2] by simp [hdrs]]; exact hown, fun b => ok b ∨ (lo ≤ b ∧ b < w2.heap.size), fun b hk => ?_, fun y hy => ?_⟩
  · rcases hk with hk | hk
    · obtain ⟨a1, a2, a3⟩ := h2 b hk
      refine ⟨a1, by omega, ?_⟩
      intro e
      have e' : g = b := by simpa [Value.ownBlock] using e
      rcases hat with h | h
      · exact a3 (by rw [h, e'])
      · omega
    · refine ⟨by omega, by omega, ?_⟩
      intro e
      have e' : g = b := by simpa [Value.ownBlock] using e
      rcases hat with h | h
      · have := hv g h; omega
      · omega
  · rcases List.mem_append.1 hy with hy | hy
    · exact ((h3 y hy).keep fun b o hk => fr b o (h2 b hk).2.1 (h2 b hk).2.2).wide fun b hk => Or.inl hk
    · obtain rfl := List.mem_singleton.1 hy
      exact (hs.keep fun b o hk => fr b o hk.2 (fun e => by have := hv b e; omega)).wide fun b hk => Or.inr hk
theorem OwnI.row {base : Nat} {w : World} {L : List (List Nat × Value)} {v : Value} (h : OwnI base w L v) : RowI (fun b => base ≤ b ∧ b < w.heap.size) w L v := by
  obtain ⟨h1, ok, h2, h3⟩ := h
  have hl := h1.lt
  have h3' : ∀ x ∈ L, IIn (fun b => base ≤ b ∧ b < w.heap.size) w x.1 x.2 := fun x hx => (h3 x hx).wide fun b hk => ⟨(h2 b hk).1, (h2 b hk).2.1⟩
  rcases h1.2 with ⟨e, hz⟩ | ⟨g, cap, cur, e, e2, e3, e4, e5, _⟩
  · exact ⟨none, 0, by rw [e, hz], by omega, Nat.zero_le _, h3', fun h => by omega⟩
  · subst e
    refine ⟨_, cap, rfl, e4, e5, h3', fun _ => ⟨g, rfl, hl g rfl, fun i x hx => ?_⟩⟩
    have hi := (List.getElem?_eq_some_iff.1 hx).1
    have e6 : (hdrs L)[i]? = some x.2 := by unfold hdrs; rw [List.getElem?_map, hx]; rfl
    exact (h1.cellAt i (by omega)).trans e6
theorem RowI.keep {ok : Nat → Prop} {w w' : World} {L : List (List Nat × Value)} {v : Value} (h : RowI ok w L v) (hf : ∀ b o, ok b → w'.cell? ⟨b, o, none⟩ = w.cell? ⟨b, o, none⟩) : RowI ok w' L v := by
  obtain ⟨p, c, h1, h2, h3, h4, h5⟩ := h
  refine ⟨p, c, h1, h2, h3, fun x hx => (h4 x hx).keep hf, fun hl => ?_⟩
  obtain ⟨g, e1, e2, e3⟩ := h5 hl
  exact ⟨g, e1, e2, fun i x hx => (hf _ _ e2).trans (e3 i x hx)⟩
theorem RowI.wide {ok ok' : Nat → Prop} {w : World} {L : List (List Nat × Value)} {v : Value} (h : RowI ok w L v) (hk : ∀ b, ok b → ok' b) : RowI ok' w L v := by
  obtain ⟨p, c, h1, h2, h3, h4, h5⟩ := h
  refine ⟨p, c, h1, h2, h3, fun x hx => (h4 x hx).wide hk, fun hl => ?_⟩
  obtain ⟨g, e1, e2, e3⟩ := h5 hl
  exact ⟨g, e1, hk _ e2, e3⟩
end NolL
end Go.Proofs.YtdkpflojdnkbnaaGreatDoor
