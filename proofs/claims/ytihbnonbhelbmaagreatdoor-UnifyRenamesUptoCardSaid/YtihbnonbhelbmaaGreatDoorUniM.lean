/- Substitutions as plain data: validity, look-up, replacement, matching, composition. No conditions. -/
import Derived.Test.YtihbnonbhelbmaaGreatDoorTermM
namespace Go.Proofs.YtihbnonbhelbmaaGreatDoor
open Go
namespace UniM
open LexM TermM
abbrev Bd := ByteArray × Tm
def eqB (a b : ByteArray) : Bool := a.data.toList == b.data.toList
theorem eqB_iff {a b : ByteArray} : eqB a b = true ↔ a = b := by
  unfold eqB
  rw [beq_iff_eq]
  exact ⟨bytes_inj, fun h => by rw [h]⟩
/-- The order of names by their bytes. -/
def ltB (a b : ByteArray) : Bool := Op.bytesLess a.data.toList b.data.toList
theorem lt_lex {a b : ByteArray} : ltB a b = true ↔ lexB a.data.toList b.data.toList < 0 := by
  unfold ltB
  rw [lex_less]
  constructor
  · intro h; rw [if_pos h]; decide
  · intro h
    by_cases c : Op.bytesLess a.data.toList b.data.toList = true
    · exact c
    · rw [if_neg c] at h
      split at h <;> omega
def ascB : List Bd → Bool
  | [] => true
  | [_] => true
  | a :: b :: r => ltB a.1 b.1 && ascB (b :: r)
def vldS (s : List Bd) : Bool := decide (s.length ≤ 64) && (s.all (fun b => varB b.1 && validT false 4 b.2) && ascB s)
def lookS (s : List Bd) (v : ByteArray) : Option Tm := (s.find? fun b => eqB b.1 v).map (·.2)
mutual
/-- Each leaf that is bound is replaced. -/
def appT (s : List Bd) : Tm → Tm
  | .mk n l => if l.isEmpty then (lookS s n).getD (.mk n []) else .mk n (appL s l)
def appL (s : List Bd) : List Tm → List Tm
  | [] => []
  | t :: l => appT s t :: appL s l
end
theorem appL_map (s : List Bd) : ∀ l, appL s l = l.map (appT s)
  | [] => rfl
  | t :: l => by simp [appL, appL_map s l]
end UniM
end Go.Proofs.YtihbnonbhelbmaaGreatDoor
