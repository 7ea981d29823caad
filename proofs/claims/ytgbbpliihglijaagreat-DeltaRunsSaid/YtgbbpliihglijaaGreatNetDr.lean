/- Readers as plain data: those of a gate are the gates that read it, in order. No conditions but those that are written. Made by gnDr.py. -/
import Derived.Test.YtgbbpliihglijaaGreatNetRe
namespace Go.Proofs.YtgbbpliihglijaaGreat
open Go
namespace NetDr
open NetM NetRe
theorem restep_at (i : Nat) (R : List (List Int)) (x : Int) (j : Nat) (hx : 0 ≤ x) (hj : j < R.length) : reAt (reStep i R x) j = if x = (j : Int) then reAt R j ++ [(i : Int)] else reAt R j := by
  unfold reStep
  by_cases e : x = (j : Int)
  · subst e
    rw [if_pos rfl, Int.toNat_natCast]
    conv => lhs; unfold reAt
    rw [List.getD_eq_getElem?_getD, List.getElem?_set, if_pos rfl, if_pos hj]
    rfl
  · rw [if_neg e]
    conv => lhs; unfold reAt
    rw [List.getD_eq_getElem?_getD, List.getElem?_set, if_neg (by omega)]
    unfold reAt
    rw [List.getD_eq_getElem?_getD]
theorem restep_len (i : Nat) (R : List (List Int)) (x : Int) : (reStep i R x).length = R.length := by unfold reStep; simp
/-- A gate's number is written once to each gate that it reads. -/
theorem regate_at (i : Nat) (j : Nat) : ∀ (l : List Int) (R : List (List Int)), l.Nodup → (∀ x ∈ l, 0 ≤ x) → j < R.length → reAt (reGate i R l) j = if (j : Int) ∈ l then reAt R j ++ [(i : Int)] else reAt R j
  | [], R, _, _, _ => by rw [if_neg (by simp)]; rfl
  | x :: l, R, hd, h0, hj => by
    show reAt (reGate i (reStep i R x) l) j = _
    have hd2 := List.nodup_cons.1 hd
    rw [regate_at i j l (reStep i R x) hd2.2 (fun y hy => h0 y (List.mem_cons_of_mem _ hy)) (by rw [restep_len]; exact hj), restep_at i R x j (h0 x (List.mem_cons_self ..)) hj]
    by_cases e : x = (j : Int)
    · subst e
      rw [if_neg hd2.1, if_pos rfl, if_pos (List.mem_cons_self ..)]
    · rw [if_neg e]
      by_cases e2 : (j : Int) ∈ l
      · rw [if_pos e2, if_pos (List.mem_cons_of_mem _ e2)]
      · rw [if_neg e2, if_neg (fun h => (List.mem_cons.1 h).elim (fun h => e h.symm) e2)]
/-- The numbers of the gates, from i on, that read gate j. -/
def readBy (j : Nat) : Nat → List Gt → List Int
  | _, [] => []
  | i, g :: l => if (j : Int) ∈ g.2.2 then (i : Int) :: readBy j (i + 1) l else readBy j (i + 1) l
theorem readby_cons (j i : Nat) (g : Gt) (l : List Gt) : readBy j i (g :: l) = if (j : Int) ∈ g.2.2 then (i : Int) :: readBy j (i + 1) l else readBy j (i + 1) l := rfl
theorem refrom_at (j : Nat) : ∀ (l : List Gt) (i : Nat) (R : List (List Int)), (∀ g ∈ l, g.2.2.Nodup ∧ ∀ x ∈ g.2.2, 0 ≤ x) → j < R.length → reAt (reFrom i R l) j = reAt R j ++ readBy j i l
  | [], _, R, _, _ => by show reAt R j = _ ++ []; rw [List.append_nil]
  | g :: l, i, R, h, hj => by
    show reAt (reFrom (i + 1) (reGate i R g.2.2) l) j = _
    have hg := h g (List.mem_cons_self ..)
    rw [refrom_at j l (i + 1) _ (fun y hy => h y (List.mem_cons_of_mem _ hy)) (by rw [regate_len]; exact hj), regate_at i j g.2.2 R hg.1 hg.2 hj]
    by_cases e : (j : Int) ∈ g.2.2
    · rw [if_pos e, List.append_assoc]
      congr 1
      rw [readby_cons, if_pos e]
      rfl
    · rw [if_neg e]
      congr 1
      rw [readby_cons, if_neg e]
/-- The readers of a gate. -/
theorem readers_at {n : Nt} {j : Nat} (h : ∀ g ∈ n.gates, g.2.2.Nodup ∧ ∀ x ∈ g.2.2, 0 ≤ x) (hj : j < n.gates.length) : reAt (readersN n) j = readBy j 0 n.gates := by
  unfold readersN
  rw [refrom_at j n.gates 0 _ h (by simpa using hj)]
  have : reAt (List.replicate n.gates.length ([] : List Int)) j = [] := by
    unfold reAt
    rw [List.getD_eq_getElem?_getD, List.getElem?_replicate, if_pos hj]
    rfl
  rw [this, List.nil_append]
theorem readby_mem {j : Nat} {x : Int} : ∀ {l : List Gt} {i : Nat}, x ∈ readBy j i l ↔ ∃ k g, l[k]? = some g ∧ (j : Int) ∈ g.2.2 ∧ x = ((i + k : Nat) : Int)
  | [], i => by
    constructor
    · intro h; exact absurd h (by simp [readBy])
    · rintro ⟨k, g, h, _⟩; simp at h
  | g :: l, i => by
    have ih := readby_mem (j := j) (x := x) (l := l) (i := i + 1)
    have hcons : x ∈ readBy j i (g :: l) ↔ ((j : Int) ∈ g.2.2 ∧ x = (i : Int)) ∨ x ∈ readBy j (i + 1) l := by
      rw [readby_cons]
      by_cases e : (j : Int) ∈ g.2.2
      · rw [if_pos e, List.mem_cons]; simp [e]
      · rw [if_neg e]; simp [e]
    rw [hcons, ih]
    constructor
    · rintro (⟨h1, h2⟩ | ⟨k, g', h1, h2, h3⟩)
      · exact ⟨0, g, rfl, h1, by rw [h2]; rfl⟩
      · exact ⟨k + 1, g', by simpa using h1, h2, by rw [h3]; congr 1; omega⟩
    · rintro ⟨k, g', h1, h2, h3⟩
      cases k with
      | zero =>
        have : g = g' := by simpa using h1
        subst this
        exact Or.inl ⟨h2, by simpa using h3⟩
      | succ k => exact Or.inr ⟨k, g', by simpa using h1, h2, by rw [h3]; congr 1; omega⟩
end NetDr
end Go.Proofs.YtgbbpliihglijaaGreat
