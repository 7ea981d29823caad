/- Parse of the reference. No conditions. -/
import Derived.Test.YtlamemhfnglfeaaDoorFracB5
import Derived.Test.YtlamemhfnglfeaaDoorFracB6
import Derived.Test.YtlamemhfnglfeaaDoorFracB3
import Derived.Test.YtlamemhfnglfeaaDoorFracE
namespace Go.Proofs.YtlamemhfnglfeaaDoor
open Go Go.RowKit
namespace FracB7
open Kit FracT FracM FracB1 FracB2 FracB3 FracB5 FracB6
theorem slash_le (t : List UInt8) : slash t ≤ t.length := (List.takeWhile_prefix _).length_le
theorem slash_no : ∀ (t : List UInt8) (k : Nat) (b : UInt8), t[k]? = some b → k < slash t → ((b.toNat : Int) == 47) = false
  | [], k, b, h, _ => by simp at h
  | a :: t, k, b, h, hk => by
    unfold slash at hk
    rw [List.takeWhile_cons] at hk
    split at hk
    · rename_i ha
      cases k with
      | zero =>
        obtain rfl : a = b := by simpa using h
        simpa using ha
      | succ k => exact slash_no t k b (by simpa using h) (by unfold slash; simpa using hk)
    · simp at hk
theorem slash_at : ∀ (t : List UInt8) (b : UInt8), t[slash t]? = some b → ((b.toNat : Int) == 47) = true
  | [], b, h => by simp at h
  | a :: t, b, h => by
    by_cases ha : ((a.toNat : Int) == 47) = true
    · have : slash (a :: t) = 0 := by unfold slash; rw [List.takeWhile_cons, ha]; rfl
      rw [this] at h
      obtain rfl : a = b := by simpa using h
      exact ha
    · have : slash (a :: t) = slash t + 1 := by unfold slash; rw [List.takeWhile_cons, if_pos (by simpa using ha)]; rfl
      rw [this] at h
      exact slash_at t b (by simpa using h)
theorem whole_in (l : List UInt8) : -1 ≤ wholeL l ∧ wholeL l ≤ 10000000000 := by
  unfold wholeL
  split
  · omega
  · rename_i h
    split
    · rename_i n hn
      have := dec_small l 10 n (by rw [List.take_of_length_le (by omega)]; exact hn) (Nat.le_refl _)
      omega
    · omega
theorem ext0 (t : ByteArray) (p : Nat) : (t.extract 0 p).data.toList = t.data.toList.take p := by simp
theorem ext1 (t : ByteArray) (p : Nat) : (t.extract (p + 1) t.size).data.toList = t.data.toList.drop (p + 1) := by
  simp
  rw [List.take_of_length_le]
  rw [List.length_drop, FracB2.len_eq]
  omega
/-- What the walk needs of the text behind the sign. -/
structure Txt (t : ByteArray) (p : Nat) (n0 d0 : Int) (t1 t2 : ByteArray) : Prop where
  le : p ≤ t.size
  no : ∀ (k : Nat) (h : k < t.size), k < p → ((t[k].toNat : Int) == 47) = false
  at_ : ∀ (h : p < t.size), ((t[p].toNat : Int) == 47) = true
  e1 : t.extract 0 p = t1
  e2 : t.extract (p + 1) t.size = t2
  w1 : ∀ w, Calls Tryd.prog 50 #[.string t1] w fun e w' => e = .returned (.int .i64 n0) ∧ w = w'
  w2 : ∀ w, Calls Tryd.prog 50 #[.string t2] w fun e w' => e = .returned (.int .i64 (if p < t.size then d0 else 0)) ∧ w = w' ∨ ¬ p < t.size
  n : -1 ≤ n0 ∧ n0 ≤ 10000000000
  d : -1 ≤ d0 ∧ d0 ≤ 10000000000
  one : ¬ p < t.size → d0 = 1
theorem txt_of (t : ByteArray) : ∃ t1 t2, Txt t (slash t.data.toList) (numR t.data.toList) (denR t.data.toList) t1 t2 := by
  have hl := slash_le t.data.toList
  rw [FracB2.len_eq] at hl
  refine ⟨_, _, hl, ?_, ?_, rfl, rfl, ?_, ?_, whole_in _, ?_, ?_⟩
  · intro k h hk
    exact slash_no t.data.toList k _ (at_list t k h) hk
  · intro h
    exact slash_at t.data.toList _ (at_list t _ h)
  · intro w
    have h := whole_any (t.extract 0 (slash t.data.toList)) w
    rw [ext0] at h
    exact h
  · intro w
    have h := whole_any (t.extract (slash t.data.toList + 1) t.size) w
    rw [ext1] at h
    refine h.mono fun e w' ⟨he, hw⟩ => ?_
    by_cases hp : slash t.data.toList < t.size
    · left
      rw [if_pos hp]
      unfold denR
      rw [FracB2.len_eq, if_pos hp]
      exact ⟨he, hw⟩
    · exact Or.inr hp
  · unfold denR
    split
    · exact whole_in _
    · omega
  · intro h
    unfold denR
    rw [FracB2.len_eq, if_neg h]
end FracB7
end Go.Proofs.YtlamemhfnglfeaaDoor
