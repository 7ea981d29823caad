/- Plain facts of layer 2: what the reference's Parse answers, and that it is what the package's answers. No conditions. -/
import Derived.Test.YtlamemhfnglfeaaDoorFracB2
namespace Go.Proofs.YtlamemhfnglfeaaDoor
open Go Go.RowKit
namespace FracB6
open FracT FracM FracB1 FracB2
open Go.Lib (decDigits decFrom itoa)
def minus : List UInt8 → Bool
  | [] => false
  | b :: _ => (b.toNat : Int) == 45
def unsign (l : List UInt8) : List UInt8 := if minus l = true then l.drop 1 else l
def slash (t : List UInt8) : Nat := (t.takeWhile (fun b => !((b.toNat : Int) == 47))).length
def numR (t : List UInt8) : Int := wholeL (t.take (slash t))
def denR (t : List UInt8) : Int := if slash t < t.length then wholeL (t.drop (slash t + 1)) else 1
def signed (l : List UInt8) (n : Int) : Int := if minus l = true then -n else n
def refP (l : List UInt8) : Int × Int × Int :=
  if numR (unsign l) < 0 then (0, 0, 1) else
    if vld (signed l (numR (unsign l))) (denR (unsign l)) = true ∧ text (signed l (numR (unsign l))) (denR (unsign l)) = l then (signed l (numR (unsign l)), denR (unsign l), 0) else (0, 0, 1)
theorem whole_digits (u : Nat) (h : u ≤ 1073741824) : wholeL (decDigits u) = (u : Int) := by
  have h1 := digits_len u h
  obtain ⟨b, l, e, _⟩ := digits_cons u
  unfold wholeL
  rw [if_neg (by rw [e] at h1 ⊢; simp at h1 ⊢; omega), digits_from]
theorem tw_all : ∀ (x r : List UInt8), (∀ b ∈ x, (b.toNat : Int) ≠ 47) → ((x ++ 47 :: r).takeWhile (fun b => !((b.toNat : Int) == 47))) = x
  | [], r, _ => by rw [List.nil_append, List.takeWhile_cons]; rfl
  | a :: x, r, h => by
    have ha : (!((a.toNat : Int) == 47)) = true := by simpa using h a List.mem_cons_self
    rw [List.cons_append, List.takeWhile_cons, if_pos ha, tw_all x r (fun b hb => h b (List.mem_cons_of_mem _ hb))]
theorem tw_end : ∀ (x : List UInt8), (∀ b ∈ x, (b.toNat : Int) ≠ 47) → (x.takeWhile (fun b => !((b.toNat : Int) == 47))) = x
  | [], _ => rfl
  | a :: x, h => by
    have ha : (!((a.toNat : Int) == 47)) = true := by simpa using h a List.mem_cons_self
    rw [List.takeWhile_cons, if_pos ha, tw_end x (fun b hb => h b (List.mem_cons_of_mem _ hb))]
theorem digits_no (u : Nat) : ∀ b ∈ decDigits u, (b.toNat : Int) ≠ 47 := fun b hb => by
  have := digits_all u b hb
  omega
theorem parts (u : Nat) (d : Int) (t : List UInt8) (hu : u ≤ 1073741824) (hd : 1 ≤ d ∧ d ≤ 1073741824) (ht : t = if d = 1 then decDigits u else decDigits u ++ 47 :: itoa d) : numR t = (u : Int) ∧ denR t = d := by
  by_cases h : d = 1
  · rw [if_pos h] at ht
    subst ht
    have hs : slash (decDigits u) = (decDigits u).length := by unfold slash; rw [tw_end _ (digits_no u)]
    unfold numR denR
    rw [hs, if_neg (Nat.lt_irrefl _), List.take_length, whole_digits u hu]
    exact ⟨rfl, h.symm⟩
  · rw [if_neg h] at ht
    subst ht
    have hs : slash (decDigits u ++ 47 :: itoa d) = (decDigits u).length := by unfold slash; rw [tw_all _ _ (digits_no u)]
    have hi : itoa d = decDigits d.toNat := by unfold itoa; rw [if_neg (by omega)]
    unfold numR denR
    rw [hs, if_pos (by simp), List.take_left, whole_digits u hu]
    refine ⟨rfl, ?_⟩
    have e : (decDigits u ++ 47 :: itoa d).drop ((decDigits u).length + 1) = itoa d := by
      rw [← List.drop_drop, List.drop_left]; rfl
    rw [e, hi, whole_digits _ (by omega)]
    omega
theorem refP_of (n d : Int) (h : vld n d = true) : refP (text n d) = (n, d, 0) := by
  obtain ⟨⟨h1, h2⟩, ⟨h3, h4⟩, h5⟩ := vld_in h
  have key : ∀ (u : Nat), u ≤ 1073741824 → (text n d = if d = 1 then itoa n else itoa n ++ 47 :: itoa d) := fun u _ => by
    unfold text
    split
    · rfl
    · simp
  have k := key 0 (by omega)
  by_cases hn : n < 0
  · have hi : itoa n = 45 :: decDigits n.natAbs := by unfold itoa; rw [if_pos hn]
    have hm : minus (text n d) = true := by
      rw [k, hi]
      split <;> rfl
    have hu : unsign (text n d) = if d = 1 then decDigits n.natAbs else decDigits n.natAbs ++ 47 :: itoa d := by
      unfold unsign
      rw [if_pos hm, k, hi]
      split <;> rfl
    obtain ⟨p1, p2⟩ := parts n.natAbs d _ (by omega) ⟨h5, h4⟩ hu
    have hs : signed (text n d) ((n.natAbs : Nat) : Int) = n := by unfold signed; rw [if_pos hm]; omega
    unfold refP
    rw [p1, p2, hs, if_neg (by omega), if_pos ⟨h, rfl⟩]
  · have hi : itoa n = decDigits n.toNat := by unfold itoa; rw [if_neg hn]
    obtain ⟨b, l, e, b1, b2⟩ := digits_cons n.toNat
    have hm : minus (text n d) = false := by
      rw [k, hi, e]
      have hb : ((b.toNat : Int) == 45) = false := by
        cases q : ((b.toNat : Int) == 45)
        · rfl
        · have : (b.toNat : Int) = 45 := by simpa using q
          omega
      split <;> exact hb
    have hu : unsign (text n d) = if d = 1 then decDigits n.toNat else decDigits n.toNat ++ 47 :: itoa d := by
      unfold unsign
      rw [if_neg (by rw [hm]; decide), k, hi]
    obtain ⟨p1, p2⟩ := parts n.toNat d _ (by omega) ⟨h5, h4⟩ hu
    have hs : signed (text n d) ((n.toNat : Nat) : Int) = n := by unfold signed; rw [if_neg (by rw [hm]; decide)]; omega
    unfold refP
    rw [p1, p2, hs, if_neg (by omega), if_pos ⟨h, rfl⟩]
/-- THE TWO ANSWER ALIKE. -/
theorem same (l : List UInt8) : codeP l = refP l := by
  rcases codeP_cases l with ⟨n, d, h1, h2, h3⟩ | ⟨h1, h2⟩
  · rw [h3, ← h2, refP_of n d h1]
  · rw [h2]
    unfold refP
    split
    · rfl
    · rw [if_neg (fun ⟨a, b⟩ => h1 _ _ a b)]
/-- What Parse of a valid fraction's text answers; what a text that is read says. -/
theorem read_text (n d : Int) (h : vld n d = true) : codeP (text n d) = (n, d, 0) := codeP_of n d h
theorem read_ok (l : List UInt8) (h : (codeP l).2.2 = 0) : vld (codeP l).1 (codeP l).2.1 = true ∧ text (codeP l).1 (codeP l).2.1 = l := by
  rcases codeP_cases l with ⟨n, d, h1, h2, h3⟩ | ⟨h1, h2⟩
  · rw [h3]; exact ⟨h1, h2⟩
  · rw [h2] at h; exact absurd h (by decide)
end FracB6
end Go.Proofs.YtlamemhfnglfeaaDoor
