/- What is kept of an ascending list: plain facts for slices.CompactFunc at literals; a run of cells that is set. No conditions. -/
import Derived.Test.YtikkaiiinkeobaaGreatDoorNosA
import Derived.Test.YtikkaiiinkeobaaGreatDoorGAN
import Derived.Lib.SliceRun
namespace Go.Proofs.YtikkaiiinkeobaaGreatDoor
open Go Go.RowKit
namespace NosP
open LexM TermM TermI Kit TermN TermU UniK UniM NorM NorR NosA
theorem three_of (l : List Value) (h : l.length = 3) : ∃ a b c, l = [a, b, c] := by
  match l, h with
  | [a, b, c], _ => exact ⟨a, b, c, rfl⟩
def SrtL (L : List (Lt × Value)) : Prop := ∀ (i j : Nat) (x y : Lt × Value), i < j → L[i]? = some x → L[j]? = some y → cmpLt x.1 y.1 ≤ 0
/-- What is kept of the first t. -/
def Cm (L C : List (Lt × Value)) (t : Nat) : Prop := Asc cmpLt (C.map (·.1)) ∧ ∀ y, y ∈ C.map (·.1) ↔ y ∈ (L.take t).map (·.1)
theorem Cm.one {L : List (Lt × Value)} : Cm L (L.take 1) 1 := by
  refine ⟨?_, fun y => Iff.rfl⟩
  cases L with
  | nil => exact List.Pairwise.nil
  | cons a l => simp [Asc]
theorem Cm.keep {L C : List (Lt × Value)} {t : Nat} (hs : SrtL L) (h : Cm L C t) {x y : Lt × Value} (hy : L[t - 1]? = some y) (hx : L[t]? = some x) (ht : 1 ≤ t) (hne : cmpLt x.1 y.1 ≠ 0) : Cm L (C ++ [x]) (t + 1) := by
  refine ⟨?_, fun z => ?_⟩
  · rw [List.map_append]
    refine List.pairwise_append.2 ⟨h.1, by simp, fun a ha b hb => ?_⟩
    obtain rfl : b = x.1 := by simpa using hb
    obtain ⟨z, hz, rfl⟩ := List.mem_map.1 ((h.2 a).1 ha)
    obtain ⟨i, hi⟩ := List.mem_iff_getElem?.1 hz
    rw [List.getElem?_take] at hi
    split at hi
    · rename_i hit
      have h1 := hs (t - 1) t y x (by omega) hy hx
      have h2 := lt_neg x.1 y.1
      by_cases e : i = t - 1
      · subst e
        rw [hy] at hi
        obtain rfl := Option.some.inj hi
        show cmpLt y.1 x.1 < 0
        omega
      · have h3 := hs i (t - 1) z y (by omega) hi hy
        have h4 := tri_lt z.1 y.1 x.1
        unfold Tri at h4
        show cmpLt z.1 x.1 < 0
        omega
    · simp at hi
  · rw [List.map_append, List.mem_append, h.2 z, take_get L t x hx, List.map_append, List.mem_append]
theorem Cm.skip {L C : List (Lt × Value)} {t : Nat} (h : Cm L C t) {x y : Lt × Value} (hy : L[t - 1]? = some y) (hx : L[t]? = some x) (ht : 1 ≤ t) (h0 : cmpLt x.1 y.1 = 0) : Cm L C (t + 1) := by
  refine ⟨h.1, fun z => ?_⟩
  rw [h.2 z, take_get L t x hx, List.map_append, List.mem_append]
  refine ⟨Or.inl, fun hz => hz.elim id fun hz => ?_⟩
  obtain rfl : z = x.1 := by simpa using hz
  rw [(lt_zero _ _).1 h0]
  refine List.mem_map.2 ⟨y, List.mem_iff_getElem?.2 ⟨t - 1, ?_⟩, rfl⟩
  rw [List.getElem?_take, if_pos (by omega)]
  exact hy
/-- What the inner loop of CompactFunc keeps: the first q of the row are what is kept of the first t; behind them, from t - 1 on, stands what stood there. -/
def In2 (L M : List (Lt × Value)) (q t : Nat) : Prop := M.length = L.length ∧ q + 1 ≤ t ∧ t ≤ L.length ∧ Cm L (M.take q) t ∧ (∀ j, t - 1 ≤ j → M[j]? = L[j]?) ∧ ∀ x ∈ M, x ∈ L
theorem In2.start {L : List (Lt × Value)} {k : Nat} (h : Cm L (L.take k) k) {x y : Lt × Value} (hy : L[k - 1]? = some y) (hx : L[k]? = some x) (hk : 1 ≤ k) (h0 : cmpLt x.1 y.1 = 0) : In2 L L k (k + 1) :=
  ⟨rfl, Nat.le_refl _, (List.getElem?_eq_some_iff.1 hx).1, h.skip hy hx hk h0, fun _ _ => rfl, fun _ h => h⟩
theorem In2.skip {L M : List (Lt × Value)} {q t : Nat} (h : In2 L M q t) {x y : Lt × Value} (hy : L[t - 1]? = some y) (hx : L[t]? = some x) (h0 : cmpLt x.1 y.1 = 0) : In2 L M q (t + 1) :=
  ⟨h.1, by have := h.2.1; omega, (List.getElem?_eq_some_iff.1 hx).1, h.2.2.2.1.skip hy hx (by have := h.2.1; omega) h0, fun j hj => h.2.2.2.2.1 j (by omega), h.2.2.2.2.2⟩
theorem In2.keep {L M : List (Lt × Value)} {q t : Nat} (hs : SrtL L) (h : In2 L M q t) {x y : Lt × Value} (hy : L[t - 1]? = some y) (hx : L[t]? = some x) (hne : cmpLt x.1 y.1 ≠ 0) : In2 L (M.set q x) (q + 1) (t + 1) := by
  obtain ⟨h1, h2, h3, h4, h5, h6⟩ := h
  have ht := (List.getElem?_eq_some_iff.1 hx).1
  refine ⟨by simpa using h1, by omega, ht, ?_, fun j hj => ?_, fun z hz => ?_⟩
  · have e : (M.set q x).take (q + 1) = M.take q ++ [x] := by
      rw [take_get (M.set q x) q x (by rw [List.getElem?_set_self (by omega)]), List.take_set]
      congr 1
      exact List.set_eq_of_length_le (by simp; omega)
    rw [e]
    exact h4.keep hs hy hx (by omega) hne
  · rw [List.getElem?_set_ne (by omega)]
    exact h5 j (by omega)
  · rcases List.mem_or_eq_of_mem_set hz with h | rfl
    · exact h6 z h
    · exact List.mem_of_getElem? hx
theorem flat_set3 {α : Type} {K : Kd α} : ∀ (M : List α) (i : Nat) (x : α) (a b c : Value), i < M.length → K.cells x = [a, b, c] → (((K.flat M).set (i * 3) a).set (i * 3 + 1) b).set (i * 3 + 2) c = K.flat (M.set i x)
  | [], i, x, a, b, c, h, _ => by simp at h
  | y :: M, 0, x, a, b, c, _, hx => by
    obtain ⟨p, q, r, e⟩ := three_of (K.cells y) (K.len y)
    simp [Kd.flat, e, hx]
  | y :: M, i + 1, x, a, b, c, h, hx => by
    have ih := flat_set3 (K := K) M i x a b c (by simpa using h) hx
    obtain ⟨p, q, r, e⟩ := three_of (K.cells y) (K.len y)
    have e1 : K.flat (y :: M) = p :: q :: r :: K.flat M := by simp [Kd.flat, e]
    have e2 : K.flat ((y :: M).set (i + 1) x) = p :: q :: r :: K.flat (M.set i x) := by simp [Kd.flat, e]
    rw [e1, e2, ← ih, show (i + 1) * 3 = i * 3 + 1 + 1 + 1 by omega, show i * 3 + 1 + 1 + 1 + 1 = (i * 3 + 1) + 1 + 1 + 1 by omega, show i * 3 + 1 + 1 + 1 + 2 = (i * 3 + 2) + 1 + 1 + 1 by omega]
    simp only [List.set_cons_succ]
theorem Hd.put3 {α : Type} {K : Kd α} {w : World} {g : Nat} {M : List α} (h : Hd w g (K.flat M)) {i : Nat} (hi : i < M.length) {x : α} {a b c : Value} (hx : K.cells x = [a, b, c]) :
    Hd (((w.setCell ⟨g, i * 3, none⟩ a).setCell ⟨g, i * 3 + 1, none⟩ b).setCell ⟨g, i * 3 + 2, none⟩ c) g (K.flat (M.set i x)) := by
  rw [← flat_set3 M i x a b c hi hx]
  have hl : (K.flat M).length = M.length * 3 := flat_len M
  exact ((h.set (by omega) a).set (by simp; omega) b).set (by simp; omega) c
/-- An element's three cells. -/
theorem Hd.at {α : Type} {K : Kd α} {w : World} {g : Nat} {M : List α} (h : Hd w g (K.flat M)) {i : Nat} {x : α} (hi : M[i]? = some x) {a b c : Value} (hx : K.cells x = [a, b, c]) :
    w.cell? ⟨g, i * 3, none⟩ = some a ∧ w.cell? ⟨g, i * 3 + 1, none⟩ = some b ∧ w.cell? ⟨g, i * 3 + 1 + 1, none⟩ = some c ∧ w.frozen? ⟨g, i * 3, none⟩ = false ∧ w.frozen? ⟨g, i * 3 + 1, none⟩ = false ∧ w.frozen? ⟨g, i * 3 + 1 + 1, none⟩ = false ∧ g < w.heap.size := by
  have f0 := flat_get (K := K) M i x hi 0 a (by rw [hx]; rfl)
  have f1 := flat_get (K := K) M i x hi 1 b (by rw [hx]; rfl)
  have f2 := flat_get (K := K) M i x hi 2 c (by rw [hx]; rfl)
  obtain ⟨a1, b1⟩ := h _ _ f0
  obtain ⟨a2, b2⟩ := h _ _ f1
  obtain ⟨a3, b3⟩ := h _ _ f2
  exact ⟨a1, a2, a3, b1, b2, b3, World.block_lt_of_cell? w _ a1⟩
/-- The row of what is kept. -/
theorem Hd.row {α : Type} {K : Kd α} {ok : Nat → Prop} {w : World} {g : Nat} {C : List α} (h : Hd w g (K.flat C)) (hg : ok g) (hk : ∀ x ∈ C, K.inn ok w x) {cap : Nat} (hc : C.length ≤ cap) (hm : cap ≤ maxLen) : RowG K ok w C (.slice (some ⟨g, 0, none⟩) C.length cap) :=
  ⟨_, cap, rfl, hc, hm, hk, fun _ => ⟨g, 0, rfl, hg, fun i x hx j u hu => by rw [Nat.zero_add]; exact (h _ u (flat_get (K := K) C i x hx j u hu)).1⟩⟩
theorem Hd.take {w : World} {g : Nat} {cs : List Value} (h : Hd w g cs) (m : Nat) : Hd w g (cs.take m) := fun j u hu => by
  rw [List.getElem?_take] at hu
  split at hu
  · exact h j u hu
  · simp at hu
theorem flat_take {α : Type} {K : Kd α} : ∀ (M : List α) (q : Nat), K.flat (M.take q) = (K.flat M).take (q * 3)
  | [], q => by simp [Kd.flat]
  | y :: M, 0 => by simp [Kd.flat]
  | y :: M, q + 1 => by
    obtain ⟨a, b, c, e⟩ := three_of (K.cells y) (K.len y)
    have e1 : K.flat (y :: M) = a :: b :: c :: K.flat M := by simp [Kd.flat, e]
    have e2 : K.flat ((y :: M).take (q + 1)) = a :: b :: c :: K.flat (M.take q) := by simp [Kd.flat, e]
    rw [e1, e2, flat_take M q, show (q + 1) * 3 = q * 3 + 1 + 1 + 1 by omega]
    rfl
theorem Hd.cut {w : World} {g : Nat} {cs : List Value} {m : Nat} (h : Hd w g (cs.take m)) (vs : List Value) : Hd (w.setCells g m vs) g (cs.take m) := fun j u hu => by
  obtain ⟨h1, h2⟩ := h j u hu
  have hj : j < m := by
    have := (List.getElem?_eq_some_iff.1 hu).1
    simp at this
    omega
  exact ⟨(World.cell?_setCells_out g vs m w ⟨g, j, none⟩ (fun _ _ => Or.inl hj)).trans h1, by rw [World.frozen?_setCells]; exact h2⟩
theorem ch_setCells {g : Nat} {a b : World} (h : Ch g a b) : ∀ (vs : List Value) (o : Nat), Ch g a (b.setCells g o vs) := by
  intro vs
  induction vs generalizing b with
  | nil => intro o; exact h
  | cons v vs ih => intro o; exact ih (h.put (Or.inl rfl) v) (o + 1)
/-- clear of a row of literals. -/
theorem clear_any (w : World) (t e : TypeId) (z : Value) (cs : Array Value) (ht : Tryz.prog.underlying t = some (.slice e)) (hv : ∀ w, (zeroValue e).run Tryz.prog w = .ok z w) (hz : z.cells = cs) (h1 : ∀ v ∈ cs, v.oneCell' = true) (b o n c : Nat) (hn : 0 < n)
    (hc : ∀ j, j < n * cs.size → (w.cell? ⟨b, o + j, none⟩).isSome = true) (hf : ∀ j, j < n * cs.size → w.frozen? ⟨b, o + j, none⟩ = false) :
    ∃ vs, ∀ ty, (Builtin.clear_ #[t] ty #[.slice (some ⟨b, o, none⟩) n c]).run Tryz.prog w = .ok (.tuple #[]) (w.setCells b o vs) := by
  have hl : (Builtin.zeroCells cs n).toList.length = n * cs.size := by simp [Builtin.zeroCells]
  have hst := run_storeCells_cells (P := Tryz.prog) b o (Builtin.zeroCells cs n).toList 0 w (by rw [hl]; exact hc) (by rw [hl]; exact hf) (by
    intro v hv'
    simp [Builtin.zeroCells] at hv'
    obtain ⟨i, hi, rfl⟩ := hv'
    have hm : i % cs.size < cs.size := Nat.mod_lt _ (by
      rcases Nat.eq_zero_or_pos cs.size with h | h
      · rw [h] at hi; omega
      · exact h)
    rw [getElem!_pos cs (i % cs.size) hm]
    exact h1 _ (Array.getElem_mem _))
  simp only [Nat.add_zero] at hst
  obtain ⟨m, rfl⟩ : ∃ m, n = m + 1 := ⟨n - 1, by omega⟩
  refine ⟨(Builtin.zeroCells cs (m + 1)).toList, fun ty => ?_⟩
  subst hz
  simp [Builtin.clear_, run_underlying ht, hv, hst]
end NosP
end Go.Proofs.YtikkaiiinkeobaaGreatDoor
