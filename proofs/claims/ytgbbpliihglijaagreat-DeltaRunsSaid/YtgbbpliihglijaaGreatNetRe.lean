/- Readers as plain data. No conditions. -/
import Derived.Test.YtgbbpliihglijaaGreatGBB
namespace Go.Proofs.YtgbbpliihglijaaGreat
open Go
namespace NetRe
open NetM
def reAt (R : List (List Int)) (j : Nat) : List Int := R.getD j []
theorem re_get {R : List (List Int)} {j : Nat} {x : List Int} (h : R[j]? = some x) : reAt R j = x := by
  unfold reAt
  rw [List.getD_eq_getElem?_getD, h]
  rfl
def reStep (i : Nat) (R : List (List Int)) (x : Int) : List (List Int) := R.set x.toNat (reAt R x.toNat ++ [(i : Int)])
def reGate (i : Nat) (R : List (List Int)) (l : List Int) : List (List Int) := l.foldl (reStep i) R
def reFrom : Nat → List (List Int) → List Gt → List (List Int)
  | _, R, [] => R
  | i, R, g :: l => reFrom (i + 1) (reGate i R g.2.2) l
def readersN (n : Nt) : List (List Int) := reFrom 0 (List.replicate n.gates.length []) n.gates
theorem regate_next (i : Nat) (R : List (List Int)) (l : List Int) {k : Nat} {x : Int} (h : l[k]? = some x) : reGate i R (l.take (k + 1)) = reStep i (reGate i R (l.take k)) x := by
  unfold reGate
  rw [List.take_add_one, h, List.foldl_append]
  rfl
theorem regate_len (i : Nat) : ∀ (l : List Int) (R : List (List Int)), (reGate i R l).length = R.length
  | [], _ => rfl
  | x :: l, R => by
    show (reGate i (reStep i R x) l).length = _
    rw [regate_len i l]
    unfold reStep
    simp
theorem refrom_len : ∀ (l : List Gt) (i : Nat) (R : List (List Int)), (reFrom i R l).length = R.length
  | [], _, _ => rfl
  | g :: l, i, R => by
    show (reFrom (i + 1) (reGate i R g.2.2) l).length = _
    rw [refrom_len l, regate_len]
theorem refrom_app : ∀ (l r : List Gt) (i : Nat) (R : List (List Int)), reFrom i R (l ++ r) = reFrom (i + l.length) (reFrom i R l) r
  | [], _, _, _ => rfl
  | g :: l, r, i, R => by
    show reFrom (i + 1) (reGate i R g.2.2) (l ++ r) = reFrom (i + (l.length + 1)) (reFrom (i + 1) (reGate i R g.2.2) l) r
    rw [refrom_app l r, show i + 1 + l.length = i + (l.length + 1) by omega]
theorem refrom_next (R : List (List Int)) (l : List Gt) {k : Nat} {g : Gt} (h : l[k]? = some g) : reFrom 0 R (l.take (k + 1)) = reGate k (reFrom 0 R (l.take k)) g.2.2 := by
  have hk := (List.getElem?_eq_some_iff.1 h).1
  rw [List.take_add_one, h]
  show reFrom 0 R (l.take k ++ [g]) = _
  rw [refrom_app, List.length_take, Nat.min_eq_left (by omega), Nat.zero_add]
  rfl
end NetRe
end Go.Proofs.YtgbbpliihglijaaGreat
