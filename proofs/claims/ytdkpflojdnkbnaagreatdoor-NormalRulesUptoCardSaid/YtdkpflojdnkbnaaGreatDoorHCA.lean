/- Texts laid together: NosS; NosQ; NosD. Their own heads stand before each. -/
import Derived.Test.YtdkpflojdnkbnaaGreatDoorHAH
import Derived.Test.YtdkpflojdnkbnaaGreatDoorHShelf
import Derived.Sort.EncStr
import Derived.Sort.Grow
import Derived.Test.YtdkpflojdnkbnaaGreatDoorHAN
import Derived.Lib.SlicesCompact
import Derived.Test.YtdkpflojdnkbnaaGreatDoorHAJ
import Derived.Test.YtdkpflojdnkbnaaGreatDoorHAE
import Derived.Test.YtdkpflojdnkbnaaGreatDoorHAQ
import Derived.Laws.AppendOwnNone
import Derived.Laws.OwnMore
import Derived.Deep.RegionHeld3
/- The library's sort of strings, and its Compact of strings: rows of strings. Condition: at most a million strings. -/
namespace Go.Proofs.YtdkpflojdnkbnaaGreatDoor
open Go Go.RowKit Go.Maps Go.WideMaps
namespace NosS
open LexM TermM TermI Kit TermN TermU TermL TermE TermF
def lists (vs : List ByteArray) : List (List UInt8) := vs.map fun v => v.data.toList
def bytesOf (ls : List (List UInt8)) : List ByteArray := ls.map fun l => ⟨l.toArray⟩
/-- The strings, ascending. -/
def sortB (vs : List ByteArray) : List ByteArray := bytesOf ((lists vs).mergeSort fun x y => decide (x ≤ y))
theorem sortB_len (vs : List ByteArray) : (sortB vs).length = vs.length := by simp [sortB, bytesOf, lists]
theorem strs_bytes (ls : List (List UInt8)) : strs (bytesOf ls) = ls.map encStr := by simp [strs, bytesOf]
theorem sortB_mem {vs : List ByteArray} {v : ByteArray} (h : v ∈ sortB vs) : v ∈ vs := by
  unfold sortB bytesOf at h
  obtain ⟨l, hl, rfl⟩ := List.mem_map.1 h
  have h1 := List.mem_mergeSort.1 hl
  unfold lists at h1
  obtain ⟨x, hx, rfl⟩ := List.mem_map.1 h1
  exact hx
/-- The row holds what is put into it. -/
theorem put_row {w : World} {base g cap : Nat} {ls : List (List UInt8)} {e : TypeId} {xs : List Value} (h : w.ownsRow base e 1 (.slice (some ⟨g, 0, none⟩) ls.length cap) ls.length xs) (n : Nat) (os : Array Obj) :
    (Sort.grow (Sort.putRow encStr (Sort.ahead w n) g 0 ls.toArray) os).ownsRow base e 1 (.slice (some ⟨g, 0, none⟩) ls.length cap) ls.length (ls.map encStr) ∧ Below base w (Sort.grow (Sort.putRow encStr (Sort.ahead w n) g 0 ls.toArray) os) := by
  obtain ⟨h1, h2⟩ := h
  rcases h2 with ⟨e1, _⟩ | ⟨g', cap', cur, e1, e2, e3, e4, e5, e6, e7⟩
  · cases e1
  · cases e1
    have hg : g < w.heap.size := (Array.getElem?_eq_some_iff.1 e3).1
    refine ⟨⟨by simp, Or.inr ⟨g, cap, Sort.putCells encStr 0 ls.toArray cur, rfl, e2, ?_, e4, e5, ?_, ?_⟩⟩, ⟨rfl, rfl, rfl, ?_, fun b hb => ?_⟩⟩
    · have e9 : (w.heap.modify g (Sort.onCells (Sort.putCells encStr 0 ls.toArray)))[g]? = some (.cells (Sort.putCells encStr 0 ls.toArray cur) e (0, 0)) := by rw [Array.getElem?_modify, if_pos rfl, e3]; rfl
      show ((w.heap.modify g (Sort.onCells (Sort.putCells encStr 0 ls.toArray))) ++ os)[g]? = _
      rw [Array.getElem?_append_left (by simpa using hg)]
      exact e9
    · simpa [Sort.putCells] using e6
    · apply List.ext_getElem?
      intro i
      simp only [Nat.mul_one, List.getElem?_take, List.getElem?_map]
      by_cases hi : i < ls.length
      · have hc : i < cur.size := by omega
        rw [if_pos hi]
        simp [Sort.putCells, hi, hc]
      · rw [if_neg hi]
        simp [List.getElem?_eq_none (Nat.not_lt.1 hi)]
    · simp [Sort.grow, Sort.putRow, Sort.mapBlock, Sort.ahead]
    · have : g ≠ b := by omega
      by_cases hbl : b < w.heap.size
      · show ((w.heap.modify g (Sort.onCells (Sort.putCells encStr 0 ls.toArray))) ++ os)[b]? = _
        rw [Array.getElem?_append_left (by simpa using hbl), Array.getElem?_modify, if_neg this]
      · omega
/-- What the library's sort of strings leaves. -/
def SortC : Prop := ∀ (base : Nat) (w : World) (v : Value) (vs : List ByteArray), w.ownsRow base 9 1 v vs.length (strs vs) → vs.length ≤ 1000000 → Calls Tryz.prog 67 #[v] w fun e w' => e = .returned (.tuple #[]) ∧ w'.ownsRow base 9 1 v vs.length (strs (sortB vs)) ∧ Below base w w'
theorem sort_nil : sortB [] = [] := by simp [sortB, lists, bytesOf]
theorem sortc : SortC := by
  intro base w v vs hown hl
  have h0 := hown
  rcases hown.2 with ⟨rfl, hz⟩ | ⟨g, cap, cur, rfl, e2, e3, e4, e5, e6, e7⟩
  · have hv : vs = [] := List.eq_nil_of_length_eq_zero hz
    subst hv
    refine (Tryz.slices_Sort_string_none none 0 w).mono ?_
    rintro e w' ⟨rfl, rfl⟩
    exact ⟨rfl, by rw [sort_nil]; exact h0, Below.refl _ _⟩
  · have hg := (h0.lt g rfl).2
    have hll : (lists vs).length = vs.length := by simp [lists]
    have hH : Go.Sort.Holds encStr w g 0 (lists vs).toArray := by
      intro j hj
      have hj' : j < vs.length := by simpa [lists] using hj
      refine ⟨?_, h0.frozenAt _⟩
      rw [Nat.zero_add, h0.cellAt j (by omega)]
      have e9 : (lists vs).toArray[j]! = vs[j].data.toList := by
        rw [getElem!_pos _ j (by simpa using hj)]
        simp [lists]
      rw [e9]
      simp [strs, encStr, hj']
    have C := Tryz.slices_Sort_string g 0 cap (lists vs) w hH hg (by omega)
    rw [hll] at C
    refine C.mono ?_
    rintro e w' ⟨rfl, n, os, rfl⟩
    have hsl : ((lists vs).mergeSort fun x y => decide (x ≤ y)).length = vs.length := by simp [lists]
    have P := put_row (ls := (lists vs).mergeSort fun x y => decide (x ≤ y)) (by rw [hsl]; exact h0) n os
    rw [hsl] at P
    refine ⟨rfl, ?_, P.2⟩
    rw [show strs (sortB vs) = ((lists vs).mergeSort fun x y => decide (x ≤ y)).map encStr from strs_bytes _]
    exact P.1
def compactB (vs : List ByteArray) : List ByteArray := bytesOf (Lib.compact (lists vs))
theorem lists_bytes (ls : List (List UInt8)) : lists (bytesOf ls) = ls := by
  unfold lists bytesOf
  rw [List.map_map]
  exact List.map_id _
/-- Strings one behind the other from the beginning of a block. -/
def StrR (base : Nat) (w : World) (p : Option Addr) (l : List ByteArray) : Prop := ∀ k x, l[k]? = some x → ∃ g, p = some ⟨g, 0, none⟩ ∧ base ≤ g ∧ g < w.heap.size ∧ w.cell? ⟨g, k, none⟩ = some (.string x)
theorem StrR.deep {base : Nat} {w w' : World} {p : Option Addr} {l : List ByteArray} (h : StrR base w p l) (hb : Below w.heap.size w w') : StrR base w' p l := fun k x hx => by
  obtain ⟨g, e, h1, h2, h3⟩ := h k x hx
  exact ⟨g, e, h1, Nat.lt_of_lt_of_le h2 hb.size, (hb.cell (p := ⟨g, _, none⟩) h2).trans h3⟩
theorem compact_len (ls : List (List UInt8)) : (Lib.compact ls).length ≤ ls.length := by
  have h := Lib.compact_length_le ls
  exact h
theorem compact_any (base : Nat) (w : World) (v : Value) (vs : List ByteArray) (hown : w.ownsRow base 9 1 v vs.length (strs vs)) (hl : vs.length ≤ 1000000) :
    Calls Tryz.prog 68 #[v] w fun e w' => ∃ (p : Option Addr) (c : Nat), e = .returned (.slice p (compactB vs).length c) ∧ StrR base w' p (compactB vs) ∧ Below base w w' := by
  have h0 := hown
  rcases hown.2 with ⟨rfl, hz⟩ | ⟨g, cap, cur, rfl, e2, e3, e4, e5, e6, e7⟩
  · have hv : vs = [] := List.eq_nil_of_length_eq_zero hz
    subst hv
    refine (Tryz.slices_Compact_string_empty none 0 w).mono ?_
    rintro e w' ⟨rfl, rfl⟩
    have e9 : compactB [] = [] := by
      have h := compact_len (lists [])
      have h2 : (Lib.compact (lists [])).length = 0 := by simp [lists] at h ⊢; exact h
      simp [compactB, bytesOf, List.eq_nil_of_length_eq_zero h2]
    rw [e9]
    exact ⟨none, 0, rfl, fun k x h => by simp at h, Below.refl _ _⟩
  · have hll : (lists vs).length = vs.length := by simp [lists]
    have hH : Go.Sort.Holds encStr w g 0 (lists vs).toArray := by
      intro j hj
      have hj' : j < vs.length := by simpa [lists] using hj
      refine ⟨?_, h0.frozenAt _⟩
      rw [Nat.zero_add, h0.cellAt j (by omega)]
      have e9 : (lists vs).toArray[j]! = vs[j].data.toList := by
        rw [getElem!_pos _ j (by simpa using hj)]
        simp [lists]
      rw [e9]
      simp [strs, encStr, hj']
    have C := Tryz.slices_Compact_string g 0 cap (lists vs) w hH (by omega) (by omega)
    rw [hll] at C
    have hcl := compact_len (lists vs)
    refine C.mono ?_
    rintro e w' ⟨rfl, n, rfl⟩
    have hsl : (Lib.compact (lists vs) ++ List.replicate (vs.length - (Lib.compact (lists vs)).length) []).length = vs.length := by simp; omega
    have P := put_row (ls := Lib.compact (lists vs) ++ List.replicate (vs.length - (Lib.compact (lists vs)).length) []) (by rw [hsl]; exact h0) n #[]
    rw [Go.Sort.grow_empty, hsl] at P
    have ecl : (compactB vs).length = (Lib.compact (lists vs)).length := by simp [compactB, bytesOf]
    refine ⟨some ⟨g, 0, none⟩, cap, by rw [ecl], fun k x hx => ?_, P.2⟩
    have hk : k < (Lib.compact (lists vs)).length := by rw [← ecl]; exact (List.getElem?_eq_some_iff.1 hx).1
    refine ⟨g, rfl, e2, (P.1.lt g rfl).2, ?_⟩
    refine (P.1.cellAt k (by omega)).trans ?_
    unfold compactB bytesOf at hx
    rw [List.getElem?_map] at hx
    obtain ⟨y, hy, rfl⟩ := Option.map_eq_some_iff.1 hx
    rw [List.getElem?_map, List.getElem?_append_left hk, hy]
    simp [encStr]
end NosS
end Go.Proofs.YtdkpflojdnkbnaaGreatDoor
/- The variables of a rule, ascending, each once, as plain data. No conditions. -/
namespace Go.Proofs.YtdkpflojdnkbnaaGreatDoor
open Go Go.RowKit
namespace NosQ
open LexM TermM TermI Kit TermN TermU TermL TermE UniM UniK NosS NorM NorQ NorS
theorem lt_list : ∀ x y : List UInt8, x < y ↔ lexB x y < 0
  | [], [] => by simp [lexB]
  | [], b :: y => by simp [lexB]
  | a :: x, [] => by simp [lexB]
  | a :: x, b :: y => by
    rw [List.cons_lt_cons_iff, lt_list x y, show lexB (a :: x) (b :: y) = thn (sg a.toNat b.toNat) (lexB x y) by rw [lexB]]
    unfold thn sg
    rw [UInt8.lt_iff_toNat_lt, ← UInt8.toNat_inj]
    by_cases h1 : a.toNat < b.toNat
    · simp [h1]
    · by_cases h2 : b.toNat < a.toNat
      · simp [h1, h2]
        omega
      · have h3 : a.toNat = b.toNat := by omega
        simp [h3]
theorem le_list (x y : List UInt8) : x ≤ y ↔ lexB x y ≤ 0 := by
  have h : x ≤ y ↔ ¬ (y < x) := Iff.rfl
  rw [h, lt_list, lex_neg x y]
  omega
theorem lex_trans {x y z : List UInt8} (h1 : lexB x y ≤ 0) (h2 : lexB y z ≤ 0) : lexB x z ≤ 0 := (tri_lex x y z).1 h1 h2
theorem sorted (ls : List (List UInt8)) : (ls.mergeSort fun x y => decide (x ≤ y)).Pairwise fun x y => lexB x y ≤ 0 := by
  have h := List.pairwise_mergeSort (le := fun x y : List UInt8 => decide (x ≤ y)) (fun a b c h1 h2 => by
    simp only [decide_eq_true_eq, le_list] at h1 h2 ⊢
    exact lex_trans h1 h2) (fun a b => by
    simp only [Bool.or_eq_true, decide_eq_true_eq, le_list]
    rw [lex_neg a b]
    omega) ls
  exact h.imp fun h => by simpa [le_list] using h
theorem compact_upto (d : Array (List UInt8)) (hs : ∀ i j, i < j → j < d.size → lexB d[i]! d[j]! ≤ 0) : ∀ m, m ≤ d.size →
    (∀ x ∈ Lib.compactUpTo d m, ∃ j, j < m ∧ d[j]! = x) ∧ (∀ j, j < m → d[j]! ∈ Lib.compactUpTo d m) ∧ (Lib.compactUpTo d m).Pairwise fun x y => lexB x y < 0
  | 0, _ => ⟨fun x hx => by simp [Lib.compactUpTo] at hx, fun j hj => by omega, by simp [Lib.compactUpTo]⟩
  | m + 1, hm => by
    obtain ⟨h1, h2, h3⟩ := compact_upto d hs m (by omega)
    rw [Lib.compactUpTo_succ]
    by_cases hk : Lib.keeps d m = true
    · rw [if_pos hk]
      refine ⟨fun x hx => ?_, fun j hj => ?_, ?_⟩
      · rcases List.mem_append.1 hx with hx | hx
        · obtain ⟨j, a, b⟩ := h1 x hx; exact ⟨j, by omega, b⟩
        · obtain rfl := List.mem_singleton.1 hx; exact ⟨m, by omega, rfl⟩
      · by_cases e : j = m
        · subst e; simp
        · exact List.mem_append_left _ (h2 j (by omega))
      · refine List.pairwise_append.2 ⟨h3, by simp, fun a ha b hb => ?_⟩
        obtain rfl := List.mem_singleton.1 hb
        obtain ⟨j, hj, rfl⟩ := h1 a ha
        have hm0 : m ≠ 0 := by omega
        have hne : d[m]! ≠ d[m - 1]! := by
          unfold Lib.keeps at hk
          rcases of_decide_eq_true hk with h | h
          · exact absurd h hm0
          · exact h
        have a1 : lexB d[m - 1]! d[m]! ≤ 0 := hs (m - 1) m (by omega) (by omega)
        have a2 : lexB d[m - 1]! d[m]! ≠ 0 := fun h => hne ((lex_zero _ _).1 h).symm
        by_cases e : j = m - 1
        · subst e; omega
        · exact (tri_lex d[j]! d[m - 1]! d[m]!).2.2.1 (hs j (m - 1) (by omega) (by omega)) (by omega)
    · rw [if_neg hk, List.append_nil]
      refine ⟨fun x hx => ?_, fun j hj => ?_, h3⟩
      · obtain ⟨j, a, b⟩ := h1 x hx; exact ⟨j, by omega, b⟩
      · by_cases e : j = m
        · subst e
          unfold Lib.keeps at hk
          have hk' : ¬ (j = 0 ∨ d[j]! ≠ d[j - 1]!) := fun h => hk (decide_eq_true h)
          have h0 : j ≠ 0 := fun h => hk' (Or.inl h)
          have h9 : d[j]! = d[j - 1]! := Decidable.not_not.1 (fun h => hk' (Or.inr h))
          rw [h9]
          exact h2 (j - 1) (by omega)
        · exact h2 j (by omega)
theorem compact_srt (ls : List (List UInt8)) (hs : ls.Pairwise fun x y => lexB x y ≤ 0) : (∀ x, x ∈ Lib.compact ls ↔ x ∈ ls) ∧ (Lib.compact ls).Pairwise fun x y => lexB x y < 0 := by
  have hg : ∀ i, i < ls.length → ls.toArray[i]! = ls[i]! := fun i hi => by rw [getElem!_pos _ i (by simpa using hi), getElem!_pos _ i hi]; simp
  obtain ⟨h1, h2, h3⟩ := compact_upto ls.toArray (fun i j hij hj => by
    have hj' : j < ls.length := by simpa using hj
    rw [hg i (by omega), hg j hj', getElem!_pos _ i (by omega), getElem!_pos _ j hj']
    exact List.pairwise_iff_getElem.1 hs i j (by omega) hj' hij) ls.length (by simp)
  refine ⟨fun x => ⟨fun h => ?_, fun h => ?_⟩, h3⟩
  · obtain ⟨j, hj, rfl⟩ := h1 x h
    rw [hg j hj, getElem!_pos _ j hj]
    exact List.getElem_mem hj
  · obtain ⟨j, hj, rfl⟩ := List.mem_iff_getElem.1 h
    have := h2 j hj
    rwa [hg j hj, getElem!_pos _ j hj] at this
theorem has_iff {M : List ByteArray} {s : ByteArray} : hasB M s = true ↔ s ∈ M := by
  unfold hasB
  rw [List.any_eq_true]
  constructor
  · rintro ⟨x, hx, he⟩
    rw [beq_iff_eq] at he
    rw [← bytes_inj he]
    exact hx
  · intro h
    exact ⟨s, h, by simp⟩
theorem add_mem {M : List ByteArray} {s v : ByteArray} : v ∈ addV M s ↔ v ∈ M ∨ v = s ∧ varB v = true := by
  unfold addV
  split
  · next h =>
    rw [List.mem_append, List.mem_singleton]
    constructor
    · rintro (h1 | rfl)
      · exact Or.inl h1
      · exact Or.inr ⟨rfl, h.1⟩
    · rintro (h1 | ⟨h1, _⟩)
      · exact Or.inl h1
      · exact Or.inr h1
  · next h =>
    constructor
    · exact Or.inl
    · rintro (h1 | ⟨rfl, h2⟩)
      · exact h1
      · cases hh : hasB M v
        · exact absurd ⟨h2, hh⟩ h
        · exact has_iff.1 hh
theorem add_nodup {M : List ByteArray} {s : ByteArray} (h : M.Nodup) : (addV M s).Nodup := by
  unfold addV
  split
  · next hc =>
    rw [List.nodup_append]
    refine ⟨h, by simp, fun a ha b hb => ?_⟩
    obtain rfl := List.mem_singleton.1 hb
    rintro rfl
    rw [has_iff.2 ha] at hc
    exact absurd hc.2 (by simp)
  · exact h
theorem vars_fold : ∀ (xs M : List ByteArray), M.Nodup → (xs.foldl addV M).Nodup ∧ ∀ v, v ∈ xs.foldl addV M ↔ v ∈ M ∨ v ∈ xs ∧ varB v = true
  | [], M, h => ⟨h, fun v => by simp⟩
  | a :: r, M, h => by
    obtain ⟨h1, h2⟩ := vars_fold r (addV M a) (add_nodup h)
    rw [List.foldl_cons]
    refine ⟨h1, fun v => ?_⟩
    rw [h2, add_mem]
    constructor
    · rintro ((h | ⟨rfl, h⟩) | ⟨h, h'⟩)
      · exact Or.inl h
      · exact Or.inr ⟨by simp, h⟩
      · exact Or.inr ⟨by simp [h], h'⟩
    · rintro (h | ⟨h, h'⟩)
      · exact Or.inl (Or.inl h)
      · rcases List.mem_cons.1 h with rfl | h
        · exact Or.inl (Or.inr ⟨rfl, h'⟩)
        · exact Or.inr ⟨h, h'⟩
theorem vars_mem {xs : List ByteArray} {v : ByteArray} : v ∈ varsOf xs ↔ v ∈ xs ∧ varB v = true := by
  have := (vars_fold xs [] List.nodup_nil).2 v
  unfold varsOf
  rw [this]
  simp
theorem vars_nodup (xs : List ByteArray) : (varsOf xs).Nodup := (vars_fold xs [] List.nodup_nil).1
theorem sort_iff {vs : List ByteArray} {v : ByteArray} : v ∈ sortB vs ↔ v ∈ vs := by
  refine ⟨sortB_mem, fun h => ?_⟩
  unfold sortB bytesOf
  refine List.mem_map.2 ⟨v.data.toList, List.mem_mergeSort.2 ?_, rfl⟩
  unfold lists
  exact List.mem_map_of_mem h
theorem cs_mem {vs : List ByteArray} {v : ByteArray} : v ∈ compactB (sortB vs) ↔ v ∈ vs := by
  rw [← sort_iff (vs := vs)]
  unfold compactB
  have hs : lists (sortB vs) = (lists vs).mergeSort fun x y => decide (x ≤ y) := by unfold sortB; rw [lists_bytes]
  rw [hs]
  unfold bytesOf
  rw [List.mem_map]
  constructor
  · rintro ⟨l, hl, rfl⟩
    have := ((compact_srt _ (sorted _)).1 l).1 hl
    rw [← hs] at this
    unfold lists at this
    obtain ⟨x, hx, rfl⟩ := List.mem_map.1 this
    exact hx
  · intro h
    refine ⟨v.data.toList, ((compact_srt _ (sorted _)).1 _).2 ?_, rfl⟩
    rw [← hs]
    exact List.mem_map.2 ⟨v, h, rfl⟩
theorem cs_srt (vs : List ByteArray) : (compactB (sortB vs)).Pairwise fun x y => lexB x.data.toList y.data.toList < 0 := by
  have hs : lists (sortB vs) = (lists vs).mergeSort fun x y => decide (x ≤ y) := by unfold sortB; rw [lists_bytes]
  unfold compactB
  rw [hs]
  unfold bytesOf
  rw [List.pairwise_map]
  exact (compact_srt _ (sorted _)).2
/-- The variables of the head and of the literals, one after the other. -/
def vsCat (h : Tm) (l : List Lt) : List ByteArray := varsOf (leavesL [h]) ++ l.flatMap fun x => varsOf (leavesL [x.2])
theorem vscat_next (h : Tm) (l : List Lt) (k : Nat) (x : Lt) (hx : l[k]? = some x) : vsCat h (l.take (k + 1)) = vsCat h (l.take k) ++ varsOf (leavesL [x.2]) := by
  unfold vsCat
  rw [take_get l k x hx, List.flatMap_append, List.append_assoc]
  simp
/-- The variables of a rule, ascending, each once. -/
def VsR (r : Rl) : List ByteArray := compactB (sortB (vsCat r.1 r.2))
theorem vsr_mem (r : Rl) (n : ByteArray) : n ∈ VsR r ↔ varB n = true ∧ n ∈ lvsR r := by
  unfold VsR
  rw [cs_mem, mem_lvs]
  unfold vsCat
  rw [List.mem_append, List.mem_flatMap]
  simp only [vars_mem, leavesL, List.append_nil]
  constructor
  · rintro (⟨h1, h2⟩ | ⟨x, hx, h1, h2⟩)
    · exact ⟨h2, Or.inl h1⟩
    · exact ⟨h2, Or.inr ⟨x, hx, h1⟩⟩
  · rintro ⟨h2, h1 | ⟨x, hx, h1⟩⟩
    · exact Or.inl ⟨h1, h2⟩
    · exact Or.inr ⟨x, hx, h1, h2⟩
theorem vsr_srt (r : Rl) : (VsR r).Pairwise fun x y => lexB x.data.toList y.data.toList < 0 := cs_srt _
theorem vsr_vars (r : Rl) : IsVars r (VsR r) := by
  refine ⟨?_, vsr_mem r⟩
  rw [List.nodup_iff_pairwise_ne]
  exact (vsr_srt r).imp fun {a b} h e => by
    subst e
    rw [(lex_zero _ _).2 rfl] at h
    omega
end NosQ
end Go.Proofs.YtdkpflojdnkbnaaGreatDoor
/- varsOf of the code: a rule's variables, ascending, each once. Conditions: at most a thousand literals; the terms have at most a million parts in all. -/
namespace Go.Proofs.YtdkpflojdnkbnaaGreatDoor
open Go Go.RowKit
namespace NosD
open LexM TermM TermI Kit TermN TermU TermL TermE TermF UniM UniK UniA UnpP NosS NosQ NorM
/-- How many parts a rule has. -/
def szR (h : Tm) (l : List Lt) : Nat := sizeT h + (l.map fun x => sizeT x.2).sum
theorem sum_mem : ∀ (l : List Lt) (x : Lt), x ∈ l → sizeT x.2 ≤ (l.map fun x => sizeT x.2).sum
  | [], x, h => by simp at h
  | y :: l, x, h => by
    simp only [List.map_cons, List.sum_cons]
    rcases List.mem_cons.1 h with rfl | h
    · omega
    · have := sum_mem l x h
      omega
theorem szr_mem {h : Tm} {l : List Lt} {x : Lt} (hx : x ∈ l) : sizeT x.2 ≤ szR h l := by
  unfold szR
  have := sum_mem l x hx
  omega
theorem cat_len (h : Tm) : ∀ (l : List Lt), (vsCat h l).length ≤ szR h l
  | [] => by
    unfold vsCat szR
    have h1 := varsOf_len (leavesL [h])
    have h2 := leaves_len h
    simp [leavesL] at h1 ⊢
    omega
  | x :: l => by
    have ih := cat_len h l
    unfold vsCat szR at ih ⊢
    have h1 := varsOf_len (leavesL [x.2])
    have h2 := leaves_len x.2
    simp [leavesL] at h1 ih ⊢
    omega
theorem szr_take (h : Tm) : ∀ (l : List Lt) (k : Nat), szR h (l.take k) ≤ szR h l
  | [], k => by simp
  | x :: l, 0 => by unfold szR; simp
  | x :: l, k + 1 => by
    have ih := szr_take h l k
    unfold szR at ih ⊢
    simp at ih ⊢
    omega
theorem strs_app (a b : List ByteArray) : strs (a ++ b) = strs a ++ strs b := by unfold strs; rw [List.map_append]
theorem strs_one (a : List ByteArray) : ∀ u ∈ strs a, u.oneCell' = true := by
  intro u hu
  unfold strs at hu
  obtain ⟨x, _, rfl⟩ := List.mem_map.1 hu
  rfl
/-- Vars at a list of one term in a block of its own. -/
theorem vars_one (t : Tm) (B : Nat) (w : World) (g : Nat) (q : Option Addr) (d : Nat) (hB : B ≤ w.heap.size) (hg : Has w g #[.string t.nm, .slice q t.args.length d]) (h : SlIn (· < B) w t.args (.slice q t.args.length d)) (hn : t.nm.size ≤ maxLen) (hz : sizeT t ≤ 1000000) :
    Calls Tryz.prog 66 #[.slice (some ⟨g, 0, none⟩) 1 1] w (Vrs (varsOf (leavesL [t])) w) := by
  refine vars_any [t] w.heap.size w _ (Nat.le_refl _) ?_ (by simp [sizeL]; omega)
  exact TermH.slin_of (B := B) (B' := w.heap.size) (cap := 1) (L := [(t, .slice q t.args.length d)]) hg.lt hB (Nat.le_refl _) (by unfold maxLen; simp) hg (fun x hx => by
    obtain rfl := List.mem_singleton.1 hx
    exact ⟨h, hn⟩)
theorem str_base {base base' : Nat} {w : World} {p : Option Addr} {l : List ByteArray} (h : StrR base w p l) (hb : base' ≤ base) : StrR base' w p l := fun k x hx => by
  obtain ⟨g, e, h1, h2, h3⟩ := h k x hx
  exact ⟨g, e, Nat.le_trans hb h1, h2, h3⟩
set_option maxRecDepth 100000 in
set_option maxHeartbeats 3200000 in
theorem varsof_any (h : Tm) (l : List Lt) (n : Nat) (hln : l.length = n) (hn1 : n ≤ 1000) (hz : szR h l ≤ 1000000) (B : Nat) (w : World) (sa sl : Value) (hB : B ≤ w.heap.size) (ha : SlIn (· < B) w h.args sa) (hnm : h.nm.size ≤ maxLen) (hl : LIn (· < B) w l sl) :
    Calls Tryz.prog 33 #[.agg #[.string h.nm, sa, sl]] w fun e w' => ∃ (p : Option Addr) (c : Nat), e = .returned (.slice p (VsR (h, l)).length c) ∧ StrR w.heap.size w' p (VsR (h, l)) ∧ Below w.heap.size w w' := by
  obtain ⟨i0, hi, hz0, hz1, hz2⟩ := info_parts Tryz.info9s
  obtain ⟨pa, ca, rfl⟩ := ha.form
  obtain ⟨pl, cl, rfl⟩ := hl.form
  obtain ⟨W1, hW1⟩ : ∃ W1, W1 = w.alloc (.cells #[.string h.nm, .slice pa h.args.length ca, .slice pl l.length cl] 27) := ⟨_, rfl⟩
  have J1 : Hid (Below w.heap.size w W1) := Lib.hid (by rw [hW1]; exact below_alloc _ _)
  have H1 : Hid (Has W1 w.heap.size #[.string h.nm, .slice pa h.args.length ca, .slice pl l.length cl]) := Lib.hid (by rw [hW1]; exact Has.new _ _ _)
  have hs1 : w.heap.size ≤ W1.heap.size := J1.out.size
  have hB1 : B ≤ W1.heap.size := Nat.le_trans hB hs1
  have zh : sizeT h ≤ 1000000 := by unfold szR at hz; omega
  have VH := Lib.hid (vars_one h B (W1.alloc (.cells #[.string h.nm, .slice pa h.args.length ca] 24)) W1.heap.size pa ca (by simp; omega) (Has.new _ _ _) ((ha.deep J1.out hB).gr (Gr.alloc _ _) hB1) hnm zh)
  have LL := Lib.hid (fun w' (k : Below W1.heap.size W1 w') => (hl.keep (w' := w') fun b o hb => ((J1.out.trans (k.mono hs1)).cell (p := ⟨b, o, none⟩) (Nat.lt_of_lt_of_le hb hB))))
  have VX := Lib.hid (fun (x : Lt) (hx : x ∈ l) (q : Option Addr) (d : Nat) (w' : World) (g : Nat) (hb : B ≤ w'.heap.size) (hg : Has w' g #[.string x.2.nm, .slice q x.2.args.length d]) (hs : SlIn (· < B) w' x.2.args (.slice q x.2.args.length d)) (hnx : x.2.nm.size ≤ maxLen) => vars_one x.2 B w' g q d hb hg hs hnx (Nat.le_trans (szr_mem (h := h) hx) hz))
  have NX := Lib.hid (fun k x (hx : l[k]? = some x) => vscat_next h l k x hx)
  have N0 : Hid (vsCat h (l.take 0) = varsOf (leavesL [h])) := Lib.hid (by simp [vsCat])
  have NE : Hid (vsCat h (l.take n) = vsCat h l) := Lib.hid (by rw [← hln, List.take_length])
  have NL : Hid (∀ k, (vsCat h (l.take k)).length ≤ 1000000) := Lib.hid (fun k => Nat.le_trans (cat_len h _) (Nat.le_trans (szr_take h l k) hz))
  have CS := Lib.hid (fun base w' v h' => sortc base w' v (vsCat h l) h' (Nat.le_trans (cat_len h l) hz))
  have CP := Lib.hid (fun base w' v h' => compact_any base w' v (sortB (vsCat h l)) h' (by rw [sortB_len]; exact Nat.le_trans (cat_len h l) hz))
  rw [show compactB (sortB (vsCat h l)) = VsR (h, l) from rfl, sortB_len] at CP
  have HLN := Lib.hid hln
  rw [hln] at hW1 H1 LL ⊢
  clear ha hl hnm hz zh hln
  generalize VsR (h, l) = V at *
  generalize sortB (vsCat h l) = SB at *
  generalize h.nm = hn at *
  generalize h.args.length = ah at *
  obtain ⟨y1, y2, y3⟩ := three H1.out
  go_enter Tryz.func33, Tryz.ntmps33
  go_upto_region 1 with fail
  rw [← hW1]
  clear hW1
  go_wp2_with fail
  refine VH.out.mono ?_
  rintro e w2 ⟨v2, base2, rfl, ho2, hb2, hd2⟩
  have D2 : Hid (Below W1.heap.size W1 w2) := Lib.hid (next1 (Below.refl _ _) hd2)
  have O2 : Hid (w2.ownsRow W1.heap.size 9 1 v2 (vsCat h (l.take 0)).length (strs (vsCat h (l.take 0)))) := Lib.hid (by rw [N0.out]; exact own_mono ho2 (by have := hb2; simp at this; omega))
  obtain ⟨va, vc, rfl⟩ := row_form O2.out
  obtain ⟨x1, x2, x3⟩ := three (H1.out.step0 D2.out)
  clear ho2 hb2 hd2 VH y1 y2 y3
  go_wp2_with fail
  go_loopw [3, 13] (fun v i wr => ∃ k : Nat, k ≤ n ∧ i = .int .i64 k ∧ Hid (wr.ownsRow W1.heap.size 9 1 v (vsCat h (l.take k)).length (strs (vsCat h (l.take k)))) ∧ Hid (Below W1.heap.size W1 wr)) (fun _ i _ => n - (intOf i).toNat)
  case atStart => exact ⟨0, Nat.zero_le _, rfl, O2, D2⟩
  case round =>
    clear O2 D2 x1 x2 x3
    obtain ⟨k, hk, rfl, hO, hD⟩ := hrel
    have hln0 := NL.out k
    obtain ⟨va, vc, rfl⟩ := row_form hO.out
    by_cases hlt : k < n
    · obtain ⟨x, g, o, q, d, hx, rfl, hg, c1, c2, c3, hs, hnx⟩ := LigU.lin_row (LL.out wr hD.out) k (by rw [HLN.out]; exact hlt)
      have NW := Lib.hid (NX.out k x hx)
      have hln2 := NL.out (k + 1)
      have VC := Lib.hid (fun w' g2 hb hg2 hs2 => VX.out x (List.mem_of_getElem? hx) q d w' g2 hb hg2 hs2 hnx)
      obtain ⟨W5, hW5⟩ : ∃ z, z = wr.alloc (.cells #[.bool x.1, .string x.2.nm, .slice q x.2.args.length d] 47) := ⟨_, rfl⟩
      have J5 : Hid (Below wr.heap.size wr W5) := Lib.hid (by rw [hW5]; exact below_alloc _ _)
      have H5 : Hid (Has W5 wr.heap.size #[.bool x.1, .string x.2.nm, .slice q x.2.args.length d]) := Lib.hid (by rw [hW5]; exact Has.new _ _ _)
      have D5 := Lib.hid (next0 hD.out J5.out)
      have O5 := Lib.hid (own_below hO.out J5.out)
      have hBw : B ≤ W5.heap.size := Nat.le_trans hB1 D5.out.size
      have VC2 := Lib.hid (VC.out (W5.alloc (.cells #[.string x.2.nm, .slice q x.2.args.length d] 24)) W5.heap.size (by simp; omega) (Has.new _ _ _) ((hs.deep J5.out (Nat.le_trans hB1 hD.out.size)).gr (Gr.alloc _ _) hBw))
      have hg' : g < wr.heap.size := Nat.lt_of_lt_of_le hg (Nat.le_trans hB1 hD.out.size)
      clear hx hs VC
      rw [NW.out, List.length_append] at hln2
      generalize vsCat h (l.take k) = ys at *
      generalize varsOf (leavesL [x.2]) = zs at *
      generalize x.2.nm = xn at *
      generalize x.2.args.length = xa at *
      generalize x.1 = xb at *
      obtain ⟨y1, y2, y3⟩ := three H5.out
      go_upto_region 5 with fail
      rw [← hW5]
      clear hW5 c1 c2 c3
      go_wp2_with fail
      refine VC2.out.mono ?_
      rintro e w6 ⟨v6, base6, rfl, ho6, hb6, hd6⟩
      have D6 : Hid (Below W1.heap.size W1 w6) := Lib.hid (D5.out.trans ((next1 (Below.refl _ _) hd6).mono D5.out.size))
      have O6 := Lib.hid (own_below O5.out (next1 (Below.refl _ _) hd6))
      clear hd6 hb6 VC2 y1 y2 y3
      rcases ho6.2 with ⟨rfl, h0⟩ | ⟨g6, c6, cur6, rfl, _⟩
      · have hzs : zs = [] := List.eq_nil_of_length_eq_zero h0
        subst hzs
        have O7 : Hid (w6.ownsRow W1.heap.size 9 1 (.slice va ys.length vc) (vsCat h (l.take (k + 1))).length (strs (vsCat h (l.take (k + 1))))) := Lib.hid (by rw [NW.out, List.append_nil]; exact O6.out)
        clear ho6
        go_wp2_with (at_builtin; refine wpList_append_own_none rfl _ _ 56 rfl W1.heap.size 9 i0 1 Tryz.underlying56 hi _ ys.length (strs ys) rfl O6.out rfl ?_)
        go_roundw
        case rel => exact ⟨k + 1, by omega, by go_num, O7, D6⟩
        case measure => simp [intOf]; omega
      · have NWS := ho6.cells (g := g6) rfl
        have A1 : ys.length + zs.length ≤ maxLen := by unfold maxLen; omega
        have A2 : (ys.length + zs.length) * 16 ≤ 140737488355328 := by omega
        have A3 : W1.heap.size ≤ w6.heap.size := D6.out.size
        have A4 : (strs zs).length = zs.length * 1 := by rw [strs_len]; omega
        clear ho6
        go_wp2_with (at_builtin; refine wpList_append_own _ rfl _ _ 56 rfl W1.heap.size 9 i0 (.string ⟨#[]⟩) 1 16 Tryz.underlying56 hi hz0 hz1 hz2 rfl (by decide) _ ys.length (strs ys) rfl O6.out ⟨g6, 0, none⟩ zs.length c6 (strs zs) rfl A4 NWS (strs_one zs) A1 A2 A3 ?_; intro v7 w7 hown7 hgrow7 _)
        have O7 : Hid (w7.ownsRow W1.heap.size 9 1 v7 (vsCat h (l.take (k + 1))).length (strs (vsCat h (l.take (k + 1))))) := Lib.hid (by
          rw [NW.out, List.length_append, strs_app]
          exact hown7)
        have D7 := Lib.hid (D6.out.grown hgrow7 A3 (fun k hk => (O6.out.lt k hk).1))
        clear hown7 hgrow7
        go_wp2_with fail
        go_roundw
        case rel => exact ⟨k + 1, by omega, by go_num, O7, D7⟩
        case measure => simp [intOf]; omega
    · obtain rfl : k = n := by omega
      have O9 := Lib.hid (by have := hO.out; rw [NE.out] at this; exact this)
      rw [NE.out]
      have CS9 := Lib.hid (CS.out W1.heap.size wr _ O9.out)
      clear O9 hO CS hln0
      generalize vsCat h l = ys at *
      go_wp2_with fail
      refine CS9.out.mono ?_
      rintro e w6 ⟨rfl, hO6, k6⟩
      have K6 := Lib.hid (hD.out.trans k6)
      have CP6 := Lib.hid (CP.out W1.heap.size w6 _ hO6)
      clear hO6 k6 CP CS9
      go_wp2_with fail
      refine CP6.out.mono ?_
      rintro e w7 ⟨p7, c7, rfl, hS7, k7⟩
      have S7 := Lib.hid hS7
      have K7 := Lib.hid (J1.out.trans ((K6.out.trans k7).mono hs1))
      clear hS7 k7 CP6
      go_wp2_with fail
      go_ret
      exact ⟨p7, c7, rfl, str_base S7.out hs1, K7.out⟩
end NosD
end Go.Proofs.YtdkpflojdnkbnaaGreatDoor
