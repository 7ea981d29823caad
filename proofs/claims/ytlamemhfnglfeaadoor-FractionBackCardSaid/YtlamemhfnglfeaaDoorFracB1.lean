/- Plain facts of layer 2: a fraction's text is read back. No conditions. -/
import Derived.Test.YtlamemhfnglfeaaDoorFracT
import Derived.Test.YtlamemhfnglfeaaDoorFracM
import Derived.Lib.AtoiTie
import Derived.Lib.AtoiAllCases
import Derived.Lib.IndexMore
import Derived.Lib.IndexBytes
namespace Go.Proofs.YtlamemhfnglfeaaDoor
open Go Go.RowKit
namespace FracB1
open FracT FracM
open Go.Lib (decDigits decFrom decNat digitVal atoi atoiAll itoa indexByte)
theorem digit_val {k : Nat} (h : k < 10) : digitVal (UInt8.ofNat (48 + k)) = some k := by
  have : (UInt8.ofNat (48 + k)).toNat = 48 + k := by simp; omega
  unfold digitVal
  rw [this, if_pos (by omega)]
  congr 1
  omega
theorem decFrom_snoc : ∀ (l : List UInt8) (acc n d : Nat) (b : UInt8), decFrom acc l = some n → digitVal b = some d → decFrom acc (l ++ [b]) = some (n * 10 + d)
  | [], acc, n, d, b, h, hd => by
    obtain rfl := Option.some.inj h
    simp [decFrom, hd]
  | a :: l, acc, n, d, b, h, hd => by
    rw [List.cons_append, decFrom]
    rw [decFrom] at h
    cases ha : digitVal a with
    | none => rw [ha] at h; cases h
    | some e =>
      rw [ha] at h
      exact decFrom_snoc l _ n d b h hd
theorem digits_ne (u : Nat) : decDigits u ≠ [] := by
  rw [decDigits]
  split <;> simp
theorem digits_from (u : Nat) : decFrom 0 (decDigits u) = some u := by
  induction u using Nat.strongRecOn with
  | _ u ih =>
    rw [decDigits]
    split
    · rename_i h
      simp only [decFrom, digit_val h]
      simp
    · rename_i h
      have := decFrom_snoc _ 0 (u / 10) (u % 10) _ (ih (u / 10) (by omega)) (digit_val (by omega))
      rw [this]
      congr 1
      omega
theorem digits_nat (u : Nat) : decNat (decDigits u) = some u := by
  unfold decNat
  rw [if_neg (by simpa using digits_ne u), digits_from]
theorem digits_all (u : Nat) : ∀ b ∈ decDigits u, 48 ≤ b.toNat ∧ b.toNat ≤ 57 := by
  intro b hb
  obtain ⟨k, hk⟩ := List.mem_iff_getElem?.1 hb
  obtain ⟨d, hd⟩ := Lib.digit_of_decFrom _ 0 u (digits_from u) k b hk
  unfold digitVal at hd
  split at hd
  · assumption
  · cases hd
theorem digits_cons (u : Nat) : ∃ b l, decDigits u = b :: l ∧ 48 ≤ b.toNat ∧ b.toNat ≤ 57 := by
  cases h : decDigits u with
  | nil => exact absurd h (digits_ne u)
  | cons b l => exact ⟨b, l, rfl, digits_all u b (by rw [h]; simp)⟩
theorem atoi_itoa (n : Int) : atoi (itoa n) = some n := by
  unfold itoa
  by_cases h : n < 0
  · rw [if_pos h]
    show (decNat (decDigits n.natAbs)).map _ = _
    rw [digits_nat]
    simp; omega
  · rw [if_neg h]
    obtain ⟨b, l, e, h1, h2⟩ := digits_cons n.toNat
    have hd := digits_nat n.toNat
    rw [e] at hd ⊢
    have n45 : (b == 45) = false := by
      cases q : (b == 45)
      · rfl
      · have : b = 45 := by simpa using q
        rw [this] at h1; exact absurd h1 (by decide)
    have n43 : (b == 43) = false := by
      cases q : (b == 43)
      · rfl
      · have : b = 43 := by simpa using q
        rw [this] at h1; exact absurd h1 (by decide)
    unfold atoi
    simp only [n45, n43, hd, Bool.false_eq_true, if_false, Option.map_some]
    congr 1
    omega
theorem digits_len (u : Nat) (h : u ≤ 1073741824) : (decDigits u).length ≤ 10 := by
  have key : ∀ (k u : Nat), u < 10 ^ (k + 1) → (decDigits u).length ≤ k + 1 := by
    intro k
    induction k with
    | zero =>
      intro u h
      rw [decDigits, dif_pos (by simpa using h)]
      simp
    | succ k ih =>
      intro u h
      rw [decDigits]
      split
      · simp
      · rw [List.length_append]
        have := ih (u / 10) (by rw [Nat.pow_succ] at h; omega)
        simp; omega
  exact key 9 u (by omega)
theorem itoa_len (n : Int) (h0 : -1073741824 ≤ n) (h1 : n ≤ 1073741824) : (itoa n).length ≤ 11 := by
  unfold itoa
  split
  · have := digits_len n.natAbs (by omega)
    simp; omega
  · have := digits_len n.toNat (by omega)
    omega
theorem atoiAll_itoa (n : Int) (h0 : -1073741824 ≤ n) (h1 : n ≤ 1073741824) : atoiAll (itoa n) = .ok n := by
  rw [Lib.atoiAll_short _ (by have := itoa_len n h0 h1; omega), atoi_itoa]
  rfl
theorem itoa_no (n : Int) : ∀ b ∈ itoa n, (b == 47) = false := by
  intro b hb
  have hx : b.toNat ≠ 47 := by
    unfold itoa at hb
    split at hb
    · rcases List.mem_cons.1 hb with rfl | hb
      · decide
      · have := digits_all _ b hb; omega
    · have := digits_all _ b hb; omega
  cases q : (b == 47)
  · rfl
  · have : b = 47 := by simpa using q
    rw [this] at hx; exact absurd rfl hx
theorem byte_none : ∀ (l : List UInt8), (∀ b ∈ l, (b == 47) = false) → indexByte l 47 = -1
  | [], _ => rfl
  | b :: l, h => by
    rw [indexByte, h b (by simp), byte_none l (fun a ha => h a (by simp [ha]))]
    rfl
theorem byte_some : ∀ (l r : List UInt8), (∀ b ∈ l, (b == 47) = false) → indexByte (l ++ 47 :: r) 47 = (l.length : Int)
  | [], r, _ => by simp [indexByte]
  | b :: l, r, h => by
    rw [List.cons_append, indexByte, h b (by simp), byte_some l r (fun a ha => h a (by simp [ha]))]
    have : ((l.length : Int) == -1) = false := by
      cases q : ((l.length : Int) == -1)
      · rfl
      · simp at q
    simp [this]
theorem cut_none (l : List UInt8) (h : ∀ b ∈ l, (b == 47) = false) : Lib.cut l [47] = (l, [], false) := by
  unfold Lib.cut
  rw [Lib.index_one, byte_none l h, if_neg (by decide)]
theorem cut_some (l r : List UInt8) (h : ∀ b ∈ l, (b == 47) = false) : Lib.cut (l ++ 47 :: r) [47] = (l, r, true) := by
  unfold Lib.cut
  rw [Lib.index_one, byte_some l r h, if_pos (by omega)]
  simp
theorem text_cut (n d : Int) : Lib.cut (text n d) [47] = if d = 1 then (itoa n, [], false) else (itoa n, itoa d, true) := by
  unfold text
  split
  · exact cut_none _ (itoa_no n)
  · rw [List.append_assoc]
    exact cut_some _ _ (itoa_no n)
/-- What the code's Parse answers: numerator, denominator, error. -/
def dens (l : List UInt8) : List UInt8 := if (Lib.cut l [47]).2.2 = true then (Lib.cut l [47]).2.1 else [49]
def codeP (l : List UInt8) : Int × Int × Int :=
  match atoiAll (Lib.cut l [47]).1, atoiAll (dens l) with
  | .ok n, .ok d => if vld n d = true ∧ text n d = l then (n, d, 0) else (0, 0, 1)
  | _, _ => (0, 0, 1)
theorem codeP_of (n d : Int) (h : vld n d = true) : codeP (text n d) = (n, d, 0) := by
  obtain ⟨⟨h1, h2⟩, ⟨h3, h4⟩, h5⟩ := vld_in h
  have e1 : atoiAll (Lib.cut (text n d) [47]).1 = .ok n := by
    rw [text_cut]
    split <;> exact atoiAll_itoa n h1 h2
  have e2 : atoiAll (dens (text n d)) = .ok d := by
    unfold dens
    rw [text_cut]
    by_cases hd : d = 1
    · rw [if_pos hd, hd]; exact (by decide +kernel : atoiAll [49] = .ok 1)
    · rw [if_neg hd]; exact atoiAll_itoa d h3 h4
  unfold codeP
  rw [e1, e2]
  simp [h]
theorem codeP_cases (l : List UInt8) : (∃ n d, vld n d = true ∧ text n d = l ∧ codeP l = (n, d, 0)) ∨ ((∀ n d, vld n d = true → text n d ≠ l) ∧ codeP l = (0, 0, 1)) := by
  by_cases h : ∃ n d, vld n d = true ∧ text n d = l
  · obtain ⟨n, d, h1, rfl⟩ := h
    exact Or.inl ⟨n, d, h1, rfl, codeP_of n d h1⟩
  · refine Or.inr ⟨fun n d h1 h2 => h ⟨n, d, h1, h2⟩, ?_⟩
    unfold codeP
    split
    · rw [if_neg (fun ⟨h1, h2⟩ => h ⟨_, _, h1, h2⟩)]
    · rfl
end FracB1
end Go.Proofs.YtlamemhfnglfeaaDoor
