/- The library's sort of strings, and its Compact of strings: rows of strings. Condition: at most a million strings. -/
import Derived.Test.YtikkaiiinkeobaaGreatDoorGAH
import Derived.Test.YtikkaiiinkeobaaGreatDoorShelf
import Derived.Sort.EncStr
import Derived.Sort.Grow
namespace Go.Proofs.YtikkaiiinkeobaaGreatDoor
open Go Go.RowKit Go.Maps Go.WideMaps
namespace NosS
open LexM TermM TermI Kit TermN TermU TermL TermE TermF
def lists (vs : List ByteArray) : List (List UInt8) := vs.map fun v => v.data.toList
def bytesOf (ls : List (List UInt8)) : List ByteArray := ls.map fun l => ⟨l.toArray⟩
/-- The strings, ascending. -/
def sortB (vs : List ByteArray) : List ByteArray := bytesOf ((lists vs).mergeSort fun x y => decide (x ≤ y))
theorem sortB_len (vs : List ByteArray) : (sortB vs).length = vs.length := by simp [sortB, bytesOf, lists]
theorem strs_bytes (ls : List (List UInt8)) : strs (bytesOf ls) = ls.map encStr := by simp [strs, bytesOf]
theorem bytes_lists (vs : List ByteArray) : bytesOf (lists vs) = vs := by
  unfold bytesOf lists
  rw [List.map_map]
  exact List.map_id _
theorem sortB_mem {vs : List ByteArray} {v : ByteArray} (h : v ∈ sortB vs) : v ∈ vs := by
  unfold sortB bytesOf at h
  obtain ⟨l, hl, rfl⟩ := List.mem_map.1 h
  have h1 := List.mem_mergeSort.1 hl
  unfold lists at h1
  obtain ⟨x, hx, rfl⟩ := List.mem_map.1 h1
  exact hx
/-- The row holds what is put into it. -/
theorem put_row {w : World} {base g cap : Nat} {ls : List (List UInt8)} {e : TypeId} {xs : List Value} (h : w.ownsRow base e 1 (.slice (some ⟨g, 0, none⟩) ls.length cap) ls.length xs) (n : Nat) (os : Array Obj) :
    (Sort.grow (Sort.putRow encStr (Sort.ahead w n) g 0 ls.toArray) os).ownsRow base e 1 (.slice (some ⟨g, 0, none⟩) ls.length cap) ls.length (ls.map encStr) ∧ Below base w (Sort.grow (Sort.putRow encStr (Sort.ahead w n) g 0 ls.toArray) os) := by
  obtain ⟨h1, h2⟩ := h
  rcases h2 with ⟨e1, _⟩ | ⟨g', cap', cur, e1, e2, e3, e4, e5, e6, e7⟩
  · cases e1
  · cases e1
    have hg : g < w.heap.size := (Array.getElem?_eq_some_iff.1 e3).1
    refine ⟨⟨by simp, Or.inr ⟨g, cap, Sort.putCells encStr 0 ls.toArray cur, rfl, e2, ?_, e4, e5, ?_, ?_⟩⟩, ⟨rfl, rfl, rfl, ?_, fun b hb => ?_⟩⟩
    · have e9 : (w.heap.modify g (Sort.onCells (Sort.putCells encStr 0 ls.toArray)))[g]? = some (.cells (Sort.putCells encStr 0 ls.toArray cur) e (0, 0)) := by rw [Array.getElem?_modify, if_pos rfl, e3]; rfl
      show ((w.heap.modify g (Sort.onCells (Sort.putCells encStr 0 ls.toArray))) ++ os)[g]? = _
      rw [Array.getElem?_append_left (by simpa using hg)]
      exact e9
    · simpa [Sort.putCells] using e6
    · apply List.ext_getElem?
      intro i
      simp only [Nat.mul_one, List.getElem?_take, List.getElem?_map]
      by_cases hi : i < ls.length
      · have hc : i < cur.size := by omega
        rw [if_pos hi]
        simp [Sort.putCells, hi, hc]
      · rw [if_neg hi]
        simp [List.getElem?_eq_none (Nat.not_lt.1 hi)]
    · simp [Sort.grow, Sort.putRow, Sort.mapBlock, Sort.ahead]
    · have : g ≠ b := by omega
      by_cases hbl : b < w.heap.size
      · show ((w.heap.modify g (Sort.onCells (Sort.putCells encStr 0 ls.toArray))) ++ os)[b]? = _
        rw [Array.getElem?_append_left (by simpa using hbl), Array.getElem?_modify, if_neg this]
      · omega
/-- What the library's sort of strings leaves. -/
def SortC : Prop := ∀ (base : Nat) (w : World) (v : Value) (vs : List ByteArray), w.ownsRow base 9 1 v vs.length (strs vs) → vs.length ≤ 1000000 → Calls Tryz.prog 67 #[v] w fun e w' => e = .returned (.tuple #[]) ∧ w'.ownsRow base 9 1 v vs.length (strs (sortB vs)) ∧ Below base w w'
theorem sort_nil : sortB [] = [] := by simp [sortB, lists, bytesOf]
theorem sortc : SortC := by
  intro base w v vs hown hl
  have h0 := hown
  rcases hown.2 with ⟨rfl, hz⟩ | ⟨g, cap, cur, rfl, e2, e3, e4, e5, e6, e7⟩
  · have hv : vs = [] := List.eq_nil_of_length_eq_zero hz
    subst hv
    refine (Tryz.slices_Sort_string_none none 0 w).mono ?_
    rintro e w' ⟨rfl, rfl⟩
    exact ⟨rfl, by rw [sort_nil]; exact h0, Below.refl _ _⟩
  · have hg := (h0.lt g rfl).2
    have hll : (lists vs).length = vs.length := by simp [lists]
    have hH : Go.Sort.Holds encStr w g 0 (lists vs).toArray := by
      intro j hj
      have hj' : j < vs.length := by simpa [lists] using hj
      refine ⟨?_, h0.frozenAt _⟩
      rw [Nat.zero_add, h0.cellAt j (by omega)]
      have e9 : (lists vs).toArray[j]! = vs[j].data.toList := by
        rw [getElem!_pos _ j (by simpa using hj)]
        simp [lists]
      rw [e9]
      simp [strs, encStr, hj']
    have C := Tryz.slices_Sort_string g 0 cap (lists vs) w hH hg (by omega)
    rw [hll] at C
    refine C.mono ?_
    rintro e w' ⟨rfl, n, os, rfl⟩
    have hsl : ((lists vs).mergeSort fun x y => decide (x ≤ y)).length = vs.length := by simp [lists]
    have P := put_row (ls := (lists vs).mergeSort fun x y => decide (x ≤ y)) (by rw [hsl]; exact h0) n os
    rw [hsl] at P
    refine ⟨rfl, ?_, P.2⟩
    rw [show strs (sortB vs) = ((lists vs).mergeSort fun x y => decide (x ≤ y)).map encStr from strs_bytes _]
    exact P.1
def compactB (vs : List ByteArray) : List ByteArray := bytesOf (Lib.compact (lists vs))
theorem lists_bytes (ls : List (List UInt8)) : lists (bytesOf ls) = ls := by
  unfold lists bytesOf
  rw [List.map_map]
  exact List.map_id _
/-- Strings one behind the other from the beginning of a block. -/
def StrR (base : Nat) (w : World) (p : Option Addr) (l : List ByteArray) : Prop := ∀ k x, l[k]? = some x → ∃ g, p = some ⟨g, 0, none⟩ ∧ base ≤ g ∧ g < w.heap.size ∧ w.cell? ⟨g, k, none⟩ = some (.string x)
theorem StrR.deep {base : Nat} {w w' : World} {p : Option Addr} {l : List ByteArray} (h : StrR base w p l) (hb : Below w.heap.size w w') : StrR base w' p l := fun k x hx => by
  obtain ⟨g, e, h1, h2, h3⟩ := h k x hx
  exact ⟨g, e, h1, Nat.lt_of_lt_of_le h2 hb.size, (hb.cell (p := ⟨g, _, none⟩) h2).trans h3⟩
theorem compact_len (ls : List (List UInt8)) : (Lib.compact ls).length ≤ ls.length := by
  have h := Lib.compact_length_le ls
  exact h
theorem compact_any (base : Nat) (w : World) (v : Value) (vs : List ByteArray) (hown : w.ownsRow base 9 1 v vs.length (strs vs)) (hl : vs.length ≤ 1000000) :
    Calls Tryz.prog 68 #[v] w fun e w' => ∃ (p : Option Addr) (c : Nat), e = .returned (.slice p (compactB vs).length c) ∧ StrR base w' p (compactB vs) ∧ Below base w w' := by
  have h0 := hown
  rcases hown.2 with ⟨rfl, hz⟩ | ⟨g, cap, cur, rfl, e2, e3, e4, e5, e6, e7⟩
  · have hv : vs = [] := List.eq_nil_of_length_eq_zero hz
    subst hv
    refine (Tryz.slices_Compact_string_empty none 0 w).mono ?_
    rintro e w' ⟨rfl, rfl⟩
    have e9 : compactB [] = [] := by
      have h := compact_len (lists [])
      have h2 : (Lib.compact (lists [])).length = 0 := by simp [lists] at h ⊢; exact h
      simp [compactB, bytesOf, List.eq_nil_of_length_eq_zero h2]
    rw [e9]
    exact ⟨none, 0, rfl, fun k x h => by simp at h, Below.refl _ _⟩
  · have hll : (lists vs).length = vs.length := by simp [lists]
    have hH : Go.Sort.Holds encStr w g 0 (lists vs).toArray := by
      intro j hj
      have hj' : j < vs.length := by simpa [lists] using hj
      refine ⟨?_, h0.frozenAt _⟩
      rw [Nat.zero_add, h0.cellAt j (by omega)]
      have e9 : (lists vs).toArray[j]! = vs[j].data.toList := by
        rw [getElem!_pos _ j (by simpa using hj)]
        simp [lists]
      rw [e9]
      simp [strs, encStr, hj']
    have C := Tryz.slices_Compact_string g 0 cap (lists vs) w hH (by omega) (by omega)
    rw [hll] at C
    have hcl := compact_len (lists vs)
    refine C.mono ?_
    rintro e w' ⟨rfl, n, rfl⟩
    have hsl : (Lib.compact (lists vs) ++ List.replicate (vs.length - (Lib.compact (lists vs)).length) []).length = vs.length := by simp; omega
    have P := put_row (ls := Lib.compact (lists vs) ++ List.replicate (vs.length - (Lib.compact (lists vs)).length) []) (by rw [hsl]; exact h0) n #[]
    rw [Go.Sort.grow_empty, hsl] at P
    have ecl : (compactB vs).length = (Lib.compact (lists vs)).length := by simp [compactB, bytesOf]
    refine ⟨some ⟨g, 0, none⟩, cap, by rw [ecl], fun k x hx => ?_, P.2⟩
    have hk : k < (Lib.compact (lists vs)).length := by rw [← ecl]; exact (List.getElem?_eq_some_iff.1 hx).1
    refine ⟨g, rfl, e2, (P.1.lt g rfl).2, ?_⟩
    refine (P.1.cellAt k (by omega)).trans ?_
    unfold compactB bytesOf at hx
    rw [List.getElem?_map] at hx
    obtain ⟨y, hy, rfl⟩ := Option.map_eq_some_iff.1 hx
    rw [List.getElem?_map, List.getElem?_append_left hk, hy]
    simp [encStr]
end NosS
end Go.Proofs.YtikkaiiinkeobaaGreatDoor
