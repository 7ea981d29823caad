/- Cone and Affected as plain data. No conditions. -/
import Derived.Test.YtkfeliogglnngaaGBD
namespace Go.Proofs.Ytkfeliogglnngaa
open Go
namespace NetCo
open LexM TermM NetM NetN NetMk
def bAt (S : List Bool) (i : Nat) : Bool := S.getD i false
theorem b_get {S : List Bool} {i : Nat} {b : Bool} (h : S[i]? = some b) : bAt S i = b := by
  unfold bAt
  rw [List.getD_eq_getElem?_getD, h]
  rfl
/-- The read numbers of gate i. -/
def readsAt (n : Nt) (i : Nat) : List Int := match n.gates[i]? with
  | some g => g.2.2
  | none => []
theorem reads_get {n : Nt} {i : Nat} {g : Gt} (h : n.gates[i]? = some g) : readsAt n i = g.2.2 := by
  unfold readsAt
  rw [h]
def coneStep (n : Nt) (S : List Bool) (i : Nat) : List Bool := if bAt S i = true then markL S (readsAt n i) else S
/-- From gate i down. -/
def coneDn (n : Nt) : Nat → List Bool → List Bool
  | 0, S => coneStep n S 0
  | i + 1, S => coneDn n i (coneStep n S (i + 1))
def coneN (n : Nt) (g : Nat) : List Int := numsOf (coneDn n g (mark1 (List.replicate n.gates.length false) g))
theorem step_len (n : Nt) (S : List Bool) (i : Nat) : (coneStep n S i).length = S.length := by
  unfold coneStep
  split
  · exact mark_len _ _
  · rfl
theorem cone_len (n : Nt) : ∀ (i : Nat) (S : List Bool), (coneDn n i S).length = S.length
  | 0, S => step_len n S 0
  | i + 1, S => by
    show (coneDn n i (coneStep n S (i + 1))).length = _
    rw [cone_len n i, step_len]
/-- The given numbers that are gates. -/
def inGates (n : Nt) (l : List Int) : List Int := l.filter fun x => inB x n.gates.length
def afStep (i : Nat) (S : List Bool) (x : Int) : List Bool := S.set i (bAt S i || bAt S x.toNat)
def afGate (i : Nat) (S : List Bool) (l : List Int) : List Bool := l.foldl (afStep i) S
def afFrom : Nat → List Bool → List Gt → List Bool
  | _, S, [] => S
  | i, S, g :: l => afFrom (i + 1) (afGate i S g.2.2) l
def affN (n : Nt) (l : List Int) : List Int := numsOf (afFrom 0 (markL (List.replicate n.gates.length false) (inGates n l)) n.gates)
theorem afgate_next (i : Nat) (S : List Bool) (l : List Int) {k : Nat} {x : Int} (h : l[k]? = some x) : afGate i S (l.take (k + 1)) = afStep i (afGate i S (l.take k)) x := by
  unfold afGate
  rw [List.take_add_one, h, List.foldl_append]
  rfl
theorem afgate_len (i : Nat) : ∀ (l : List Int) (S : List Bool), (afGate i S l).length = S.length
  | [], _ => rfl
  | x :: l, S => by
    show (afGate i (afStep i S x) l).length = _
    rw [afgate_len i l]
    unfold afStep
    simp
theorem affrom_len : ∀ (l : List Gt) (i : Nat) (S : List Bool), (afFrom i S l).length = S.length
  | [], _, _ => rfl
  | g :: l, i, S => by
    show (afFrom (i + 1) (afGate i S g.2.2) l).length = _
    rw [affrom_len l, afgate_len]
theorem affrom_app : ∀ (l r : List Gt) (i : Nat) (S : List Bool), afFrom i S (l ++ r) = afFrom (i + l.length) (afFrom i S l) r
  | [], _, _, _ => rfl
  | g :: l, r, i, S => by
    show afFrom (i + 1) (afGate i S g.2.2) (l ++ r) = afFrom (i + (l.length + 1)) (afFrom (i + 1) (afGate i S g.2.2) l) r
    rw [affrom_app l r, show i + 1 + l.length = i + (l.length + 1) by omega]
theorem affrom_next (S : List Bool) (l : List Gt) {k : Nat} {g : Gt} (h : l[k]? = some g) : afFrom 0 S (l.take (k + 1)) = afGate k (afFrom 0 S (l.take k)) g.2.2 := by
  have hk := (List.getElem?_eq_some_iff.1 h).1
  rw [List.take_add_one, h]
  show afFrom 0 S (l.take k ++ [g]) = _
  rw [affrom_app, List.length_take, Nat.min_eq_left (by omega), Nat.zero_add]
  rfl
theorem in_next (n : Nt) (l : List Int) {k : Nat} {x : Int} (h : l[k]? = some x) : inGates n (l.take (k + 1)) = if inB x n.gates.length = true then inGates n (l.take k) ++ [x] else inGates n (l.take k) := by
  unfold inGates
  rw [List.take_add_one, h, List.filter_append]
  by_cases e : inB x n.gates.length = true
  · rw [if_pos e]
    simp [e]
  · rw [if_neg e]
    simp [e]
end NetCo
end Go.Proofs.Ytkfeliogglnngaa
