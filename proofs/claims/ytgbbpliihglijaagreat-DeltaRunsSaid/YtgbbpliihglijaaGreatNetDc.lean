/- How many gates that a gate reads are true: what that says of its value, and how it changes with one of them. No conditions but those that are written. Made by gnDc.py. -/
import Derived.Test.YtgbbpliihglijaaGreatNetDg
import Derived.Test.YtgbbpliihglijaaGreatNetDr
namespace Go.Proofs.YtgbbpliihglijaaGreat
open Go
namespace NetDc
open NetM NetN NetOk NetEv NetDg
/-- How many of a list's gates are true. -/
def trN (V : List Bool) (l : List Int) : Nat := (l.filter (vAt V)).length
theorem tr_le (V : List Bool) (l : List Int) : trN V l ≤ l.length := List.length_filter_le _ _
theorem tr_and (V : List Bool) (l : List Int) : l.all (vAt V) = decide ((trN V l : Int) = (l.length : Int)) := by
  rw [Bool.eq_iff_iff, decide_eq_true_eq, List.all_eq_true]
  unfold trN
  constructor
  · intro h
    rw [List.filter_eq_self.2 h]
  · intro h
    have h2 : (l.filter (vAt V)).length = l.length := by omega
    exact List.length_filter_eq_length_iff.1 h2
theorem tr_or (V : List Bool) (l : List Int) : l.any (vAt V) = decide ((0 : Int) < (trN V l : Int)) := by
  rw [Bool.eq_iff_iff, decide_eq_true_eq, List.any_eq_true]
  unfold trN
  constructor
  · rintro ⟨x, hx, h⟩
    have := List.length_pos_of_mem (List.mem_filter.2 ⟨hx, h⟩)
    omega
  · intro h
    obtain ⟨x, hx⟩ := List.exists_mem_of_length_pos (show 0 < (l.filter (vAt V)).length by omega)
    exact ⟨x, (List.mem_filter.1 hx).1, (List.mem_filter.1 hx).2⟩
theorem tr_not {V : List Bool} {l : List Int} (h : l.length = 1) : (!(vAt V (at0 l 0))) = decide ((trN V l : Int) = 0) := by
  match l, h with
  | [x], _ =>
    have e : at0 [x] 0 = x := at_get rfl
    rw [e]
    unfold trN
    cases hv : vAt V x <;> simp [hv]
/-- The value of a gate that reads others. -/
theorem gv_tr {st ip : List Int} {V : List Bool} {g : Gt} (h4 : 4 ≤ g.1) (h7 : g.1 < 7) (h6 : g.1 = 6 → g.2.2.length = 1) : gvN st ip V g = gvB g.1 g.2.2.length (trN V g.2.2) := by
  unfold gvN gvB
  rw [if_neg (by omega), if_neg (by omega)]
  by_cases e4 : g.1 = 4
  · rw [if_pos e4, if_pos e4, tr_and]
  · rw [if_neg e4, if_neg e4]
    by_cases e5 : g.1 = 5
    · rw [if_pos e5, if_pos e5, tr_or]
    · rw [if_neg e5, if_neg e5]
      have e6 : g.1 = 6 := by omega
      rw [if_pos e6, tr_not (h6 e6)]
theorem v_set {V : List Bool} {j : Nat} {b : Bool} {x : Int} (hj : j < V.length) (hx : 0 ≤ x) : vAt (V.set j b) x = if x = (j : Int) then b else vAt V x := by
  by_cases e : x = (j : Int)
  · subst e
    rw [if_pos rfl]
    exact v_get (by rw [Int.toNat_natCast, List.getElem?_set, if_pos rfl, if_pos hj])
  · rw [if_neg e]
    unfold vAt
    rw [List.getD_eq_getElem?_getD, List.getD_eq_getElem?_getD, List.getElem?_set, if_neg (by omega)]
/-- A gate that is not read changes nothing. -/
theorem tr_out {V : List Bool} {j : Nat} {b : Bool} {l : List Int} (hj : j < V.length) (h0 : ∀ x ∈ l, 0 ≤ x) (h : (j : Int) ∉ l) : trN (V.set j b) l = trN V l := by
  unfold trN
  congr 1
  refine List.filter_congr fun x hx => ?_
  rw [v_set hj (h0 x hx), if_neg (fun e => h (by rw [← e]; exact hx))]
/-- A gate that is read and takes its other value changes the number by one. -/
theorem tr_in {V : List Bool} {j : Nat} {b : Bool} : ∀ {l : List Int}, j < V.length → (∀ x ∈ l, 0 ≤ x) → l.Nodup → (j : Int) ∈ l → vAt V j = (!b) → (trN (V.set j b) l : Int) = (trN V l : Int) + (if b then 1 else -1)
  | [], _, _, _, h, _ => absurd h (by simp)
  | x :: l, hj, h0, hd, h, hv => by
    have hd2 := List.nodup_cons.1 hd
    have e1 : ∀ W : List Bool, trN W (x :: l) = (if vAt W x then 1 else 0) + trN W l := fun W => by
      unfold trN
      rw [List.filter_cons]
      cases vAt W x <;> simp <;> omega
    rw [e1, e1]
    by_cases e : x = (j : Int)
    · subst e
      rw [tr_out hj (fun y hy => h0 y (List.mem_cons_of_mem _ hy)) hd2.1, v_set hj (by omega), if_pos rfl, hv]
      cases b <;> simp <;> omega
    · have h2 : (j : Int) ∈ l := (List.mem_cons.1 h).elim (fun h => absurd h.symm e) id
      have ih := tr_in (b := b) hj (fun y hy => h0 y (List.mem_cons_of_mem _ hy)) hd2.2 h2 hv
      rw [v_set hj (h0 x (List.mem_cons_self ..)), if_neg e]
      rw [Int.natCast_add, Int.natCast_add, ih]
      omega
end NetDc
end Go.Proofs.YtgbbpliihglijaaGreat
