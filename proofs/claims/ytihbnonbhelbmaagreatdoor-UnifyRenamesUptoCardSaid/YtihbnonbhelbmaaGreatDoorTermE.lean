/- Vars: the variables among the leaves, each once, in the order of their first occurrence. Condition: at most a million parts. -/
import Derived.Test.YtihbnonbhelbmaaGreatDoorTermL
import Derived.Test.YtihbnonbhelbmaaGreatDoorTermV
import Derived.Maps.Own
import Derived.Maps.Views
import Derived.Maps.OwnOps
namespace Go.Proofs.YtihbnonbhelbmaaGreatDoor
open Go Go.RowKit Go.Maps Go.WideMaps
namespace TermE
open LexM TermM TermI Kit TermN TermU TermL TermC
/-- Is the string among these? -/
def hasB (M : List ByteArray) (s : ByteArray) : Bool := M.any fun x => x.data.toList == s.data.toList
def addV (M : List ByteArray) (s : ByteArray) : List ByteArray := if varB s = true ∧ hasB M s = false then M ++ [s] else M
def varsOf (xs : List ByteArray) : List ByteArray := xs.foldl addV []
theorem varsOf_next (xs : List ByteArray) (k : Nat) (s : ByteArray) (h : xs[k]? = some s) : varsOf (xs.take (k + 1)) = addV (varsOf (xs.take k)) s := by
  unfold varsOf
  rw [take_get xs k s h, List.foldl_append]
  rfl
theorem varsOf_len (xs : List ByteArray) : (varsOf xs).length ≤ xs.length := by
  have : ∀ (xs M : List ByteArray), (xs.foldl addV M).length ≤ M.length + xs.length := by
    intro xs
    induction xs with
    | nil => intro M; simp
    | cons a r ih =>
      intro M
      have h := ih (addV M a)
      have h2 : (addV M a).length ≤ M.length + 1 := by unfold addV; split <;> simp
      simp only [List.foldl_cons, List.length_cons]
      omega
  have := this xs []
  simpa [varsOf] using this
/-- What the set of the variables seen so far reads as. -/
def Dof (M : List ByteArray) : DataW Unit := M.foldl (fun D s => D.put (.string s.data.toList) (.lit (.bool true))) (.map [])
theorem Dof_snoc (M : List ByteArray) (s : ByteArray) : Dof (M ++ [s]) = (Dof M).put (.string s.data.toList) (.lit (.bool true)) := by simp [Dof]
theorem law : Keyed Tryz.prog 9 := string_keyed Tryz.underlying9
theorem isKey (s : ByteArray) (hs : s.size ≤ maxLen) : WideAt.IsKeyLit (.string s.data.toList) := law.key (keyOf_string_mk Tryz.underlying9 hs)
theorem at_fold (s : ByteArray) : ∀ (M : List ByteArray) (D : DataW Unit), IsMap D → (∀ x ∈ M, x.size ≤ maxLen) → (M.foldl (fun D s => D.put (.string s.data.toList) (.lit (.bool true))) D).atKey (.string s.data.toList) (.lit (.bool false)) = if hasB M s = true then .lit (.bool true) else D.atKey (.string s.data.toList) (.lit (.bool false))
  | [], D, _, _ => rfl
  | a :: M, D, hD, hz => by
    rw [List.foldl_cons, at_fold s M _ (hD.put _ _) (fun x hx => hz x (by simp [hx]))]
    unfold hasB
    rw [List.any_cons]
    by_cases h : M.any (fun x => x.data.toList == s.data.toList) = true
    · rw [if_pos h, if_pos (by rw [h, Bool.or_true])]
    · rw [if_neg h]
      have h' : (M.any fun x => x.data.toList == s.data.toList) = false := by simpa using h
      by_cases ha : a.data.toList = s.data.toList
      · rw [if_pos (by rw [beq_iff_eq.2 ha, Bool.true_or]), ha]
        have hk := isKey a (hz a (by simp))
        rw [ha] at hk
        exact atKey_put_same hD hk _ _
      · rw [if_neg (by rw [h', beq_eq_false_iff_ne.2 ha]; simp)]
        exact atKey_put_other (by intro e; injection e with e; exact ha e.symm) _ _
theorem at_Dof (M : List ByteArray) (s : ByteArray) (hz : ∀ x ∈ M, x.size ≤ maxLen) : (Dof M).atKey (.string s.data.toList) (.lit (.bool false)) = .lit (.bool (hasB M s)) := by
  unfold Dof
  rw [at_fold s M _ isMap_empty hz]
  cases h : hasB M s
  · rw [if_neg (by simp)]; rfl
  · rw [if_pos rfl]
theorem zeroE (w : World) : (zeroValue 4).run Tryz.prog w = .ok (.bool false) w := by kernel_rfl
set_option maxRecDepth 100000 in
theorem look_bool {w : World} {b n : Nat} {M : List ByteArray} (h : w.ownsMap Tryz.prog 9 (plainElem Tryz.prog 4) b n (Dof M)) (hz : ∀ x ∈ M, x.size ≤ maxLen) (s : ByteArray) (hs : s.size ≤ maxLen) :
    (Instr.lookup 92 (.map (some b)) (.string s) false).run Tryz.prog w = .ok (.bool (hasB M s)) w := by
  obtain ⟨v, ps, hrun, hv⟩ := h.lookup law Tryz.underlying92 (zeroE w) (plainElem_bool (H := Unit) Tryz.underlying4 false) (keyOf_string_mk Tryz.underlying9 hs)
  rw [at_Dof M s hz] at hv
  unfold plainElem at hv
  rw [Tryz.underlying4] at hv
  cases v <;> simp at hv
  obtain ⟨hv, _⟩ := hv
  rw [hrun, hv]
theorem names_ok {ok : Nat → Prop} {w : World} {l : List Tm} {v : Value} (h : SlIn ok w l v) : ∀ x ∈ leavesL l, x.size ≤ maxLen := by
  induction h with
  | mk p c l V b o hp hn hc hm h1 h2 ih =>
    intro x hx
    have key : ∀ (l' : List Tm), (∀ t : Tm, t ∈ l' → ∃ i : Nat, l[i]? = some t) → ∀ x ∈ leavesL l', x.size ≤ maxLen := by
      intro l'
      induction l' with
      | nil => intro _ x hx; simp [leavesL] at hx
      | cons a r ihr =>
        intro hl x hx
        simp only [leavesL] at hx
        rcases List.mem_append.1 hx with hx | hx
        · obtain ⟨i, hi⟩ := hl a (by simp)
          rw [leavesT_arg] at hx
          split at hx
          · obtain rfl := List.mem_singleton.1 hx
            exact (h1 i a hi).2.2
          · exact ih i a hi x hx
        · exact ihr (fun t ht => hl t (by simp [ht])) x hx
    exact key l (fun t ht => List.mem_iff_getElem?.1 ht) x hx
end TermE
end Go.Proofs.YtihbnonbhelbmaaGreatDoor
