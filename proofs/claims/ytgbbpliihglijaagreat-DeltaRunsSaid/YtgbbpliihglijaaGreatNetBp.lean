/- Bits as lists of numbers, as plain data. Conditions as they stand. Made by gnBt.py. -/
import Derived.Test.YtgbbpliihglijaaGreatGBD
import Derived.WalkSmall
namespace Go.Proofs.YtgbbpliihglijaaGreat
open Go
namespace NetBp
open LexM TermM NetM NetN NetMk NetOk NetEv
theorem nums_pw (S : List Bool) : ∀ k : Nat, (numsTo S k).Pairwise (· < ·) ∧ ∀ x ∈ numsTo S k, 0 ≤ x ∧ x < (k : Int)
  | 0 => ⟨List.Pairwise.nil, fun x hx => by cases hx⟩
  | k + 1 => by
    obtain ⟨h1, h2⟩ := nums_pw S k
    by_cases h : S[k]? = some true
    · rw [nums_yes h]
      refine ⟨List.pairwise_append.2 ⟨h1, List.pairwise_singleton _ _, fun a ha b hb => ?_⟩, fun x hx => ?_⟩
      · rw [List.mem_singleton.1 hb]
        exact (h2 a ha).2
      · rcases List.mem_append.1 hx with hx | hx
        · have := h2 x hx
          omega
        · rw [List.mem_singleton.1 hx]
          omega
    · rw [nums_no h]
      exact ⟨h1, fun x hx => by have := h2 x hx; omega⟩
theorem nums_mem (S : List Bool) (x : Int) : ∀ k : Nat, x ∈ numsTo S k ↔ ∃ j : Nat, j < k ∧ x = (j : Int) ∧ S[j]? = some true
  | 0 => by
    constructor
    · intro h; cases h
    · rintro ⟨j, hj, _⟩; omega
  | k + 1 => by
    by_cases h : S[k]? = some true
    · rw [nums_yes h, List.mem_append, nums_mem S x k, List.mem_singleton]
      constructor
      · rintro (⟨j, hj, e, hs⟩ | e)
        · exact ⟨j, by omega, e, hs⟩
        · exact ⟨k, by omega, e, h⟩
      · rintro ⟨j, hj, e, hs⟩
        by_cases hk : j = k
        · subst hk
          exact Or.inr e
        · exact Or.inl ⟨j, by omega, e, hs⟩
    · rw [nums_no h, nums_mem S x k]
      constructor
      · rintro ⟨j, hj, e, hs⟩
        exact ⟨j, by omega, e, hs⟩
      · rintro ⟨j, hj, e, hs⟩
        by_cases hk : j = k
        · subst hk
          exact absurd hs h
        · exact ⟨j, by omega, e, hs⟩
/-- An ascending list in range is a subset. -/
theorem numsb_of {l : List Int} {m : Int} (h : l.Pairwise (· < ·)) (hr : ∀ x ∈ l, 0 ≤ x ∧ x < m) : numsB l m = true := by
  unfold numsB
  rw [alln_true]
  intro j hj
  have e : l[j]? = some l[j] := List.getElem?_eq_getElem hj
  unfold numAt
  rw [at_get e, Bool.and_eq_true]
  refine ⟨inb_iff.2 (hr _ (List.getElem_mem hj)), ?_⟩
  rw [Bool.or_eq_true, decide_eq_true_eq, decide_eq_true_eq]
  by_cases h0 : j = 0
  · exact Or.inl h0
  · right
    have e2 : l[j - 1]? = some l[j - 1] := List.getElem?_eq_getElem (by omega)
    rw [at_get e2]
    exact List.pairwise_iff_getElem.1 h (j - 1) j (by omega) hj (by omega)
/-- The numbers below m whose bits are set. -/
def bitS (b : Nat) : List Bool := (List.range 64).map b.testBit
def bitsL (b m : Nat) : List Int := numsTo (bitS b) (min m 64)
theorem bits_get {b k : Nat} (hk : k < 64) : (bitS b)[k]? = some (b.testBit k) := by
  unfold bitS
  rw [List.getElem?_map, List.getElem?_range hk]
  rfl
theorem bits_mem {b m j : Nat} : (j : Int) ∈ bitsL b m ↔ j < m ∧ j < 64 ∧ b.testBit j = true := by
  unfold bitsL
  rw [nums_mem]
  constructor
  · rintro ⟨i, hi, e, hs⟩
    obtain rfl : j = i := by omega
    rw [bits_get (by omega)] at hs
    injection hs with hs
    exact ⟨by omega, by omega, hs⟩
  · rintro ⟨h1, h2, h3⟩
    exact ⟨j, by omega, rfl, by rw [bits_get h2, h3]⟩
theorem bits_ok (b m : Nat) : numsB (bitsL b m) m = true := by
  obtain ⟨h1, h2⟩ := nums_pw (bitS b) (min m 64)
  exact numsb_of h1 fun x hx => by have := h2 x hx; omega
theorem bit_test {b : Nat} (hb : b < 18446744073709551616) (k : Nat) : (bits BinOp.and IntKind.u64 ((b : Int) / 2 ^ k) 1 == 1) = b.testBit k := by
  obtain ⟨d, hd⟩ : ∃ d, d = b / 2 ^ k := ⟨_, rfl⟩
  have e : ((b : Int) / 2 ^ k) = (d : Int) := by
    rw [hd, Int.natCast_ediv]
    simp
  have h1 : d ≤ b := by rw [hd]; exact Nat.div_le_self _ _
  rw [e, and_one_u64 _ (by omega) (by omega), Nat.testBit_eq_decide_div_mod_eq, ← hd]
  rw [Bool.eq_iff_iff, beq_iff_eq, decide_eq_true_eq]
  omega
end NetBp
end Go.Proofs.YtgbbpliihglijaaGreat
