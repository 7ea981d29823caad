/- The reference's Compose as a plain function. No conditions. -/
import Derived.Test.YtjfgnmmcdgpiiaaGreatDoorUniV
import Derived.Test.YtjfgnmmcdgpiiaaGreatDoorUniR
import Derived.Test.YtjfgnmmcdgpiiaaGreatDoorUniH
namespace Go.Proofs.YtjfgnmmcdgpiiaaGreatDoor
open Go Go.RowKit
namespace UnjA
open LexM TermM TermI Kit TermN TermU UniK UniM UniA UniC UniD UniE UniG UniH UniJ UniO UniR
/-- One variable of a composition. -/
def cstep (s t out : List Bd) (v : ByteArray) : List Bd :=
  if (lookS out v).isNone && !(cmpT (appT t (appT s (.mk v []))) (.mk v []) == 0) then putS (v, appT t (appT s (.mk v []))) out else out
def compF (s t : List Bd) (k : Nat) : List Bd := (((s ++ t).map (·.1)).take k).foldl (cstep s t) []
theorem comp_next (s t : List Bd) (k : Nat) (v : ByteArray) (h : ((s ++ t).map (·.1))[k]? = some v) : compF s t (k + 1) = cstep s t (compF s t k) v := by
  unfold compF
  have : ((s ++ t).map (·.1)).take (k + 1) = ((s ++ t).map (·.1)).take k ++ [v] := take_get _ k v h
  rw [this, List.foldl_append]
  rfl
theorem step_len (s t out : List Bd) (v : ByteArray) : (cstep s t out v).length ≤ out.length + 1 := by
  unfold cstep
  split
  · rw [put_len]; exact Nat.le_refl _
  · omega
theorem comp_len (s t : List Bd) : ∀ k, k ≤ (s ++ t).length → (compF s t k).length ≤ k
  | 0, _ => by simp [compF]
  | k + 1, h => by
    have hk : k < ((s ++ t).map (·.1)).length := by rw [List.length_map]; exact h
    rw [comp_next s t k _ (List.getElem?_eq_getElem hk)]
    have := step_len s t (compF s t k) (((s ++ t).map (·.1))[k])
    have := comp_len s t k (by omega)
    omega
theorem app_leaf (s : List Bd) (v : ByteArray) : appT s (.mk v []) = (lookS s v).getD (.mk v []) := by simp [appT]
theorem leaf_size {s : List Bd} (h : ∀ y ∈ s, sizeT y.2 ≤ 1000000) (v : ByteArray) : sizeT (appT s (.mk v [])) ≤ 1000000 := by
  rw [app_leaf]
  cases hl : lookS s v with
  | none => simp [sizeT, sizeL]
  | some u =>
    have : ∃ y ∈ s, y.2 = u := by
      unfold lookS at hl
      cases hf : s.find? (fun b => eqB b.1 v) with
      | none => rw [hf] at hl; cases hl
      | some y => rw [hf] at hl; exact ⟨y, List.mem_of_find?_eq_some hf, by simpa using hl⟩
    obtain ⟨y, hy, rfl⟩ := this
    exact h y hy
/-- What one round does, from the variable on. -/
def names (s t : List Bd) : List ByteArray := (s ++ t).map (·.1)
theorem names_left {s t : List Bd} {k : Nat} {x : Bd} (h : s[k]? = some x) : (names s t)[k]? = some x.1 := by
  unfold names
  rw [List.getElem?_map, List.getElem?_append_left (List.getElem?_eq_some_iff.1 h).1, h]
  rfl
theorem names_right {s t : List Bd} {j : Nat} {x : Bd} (h : t[j]? = some x) : (names s t)[s.length + j]? = some x.1 := by
  unfold names
  rw [List.getElem?_map, List.getElem?_append_right (by omega), show s.length + j - s.length = j by omega, h]
  rfl
end UnjA
end Go.Proofs.YtjfgnmmcdgpiiaaGreatDoor
