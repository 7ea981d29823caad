/- The code's Match. Conditions: the substitution's terms and the ground term have at most a million parts. -/
import Derived.Test.YtihbnonbhelbmaaGreatDoorUniL
import Derived.Test.YtihbnonbhelbmaaGreatDoorTermH
import Derived.OwnWalk
import Derived.Laws.OwnMore
import Derived.Deep.DeepCutAuto
import Derived.Deep.RegionWith
namespace Go.Proofs.YtihbnonbhelbmaaGreatDoor
open Go Go.RowKit
namespace UniP
open LexM TermM TermI Kit TermN TermU UniK UniM UniA UniC UniD UniE UniG UniJ UniO UniL
theorem asc_srt : ∀ s : List Bd, ascB s = true → Srt s
  | [], _ => fun i j a b _ ha _ => by simp at ha
  | [x], _ => srt_cons (fun i j a b _ ha _ => by simp at ha) (fun y hy => by simp at hy)
  | a :: b :: r, h => by
    unfold ascB at h
    rw [Bool.and_eq_true] at h
    have ih := asc_srt (b :: r) h.2
    have hab := lt_lex.1 h.1
    refine srt_cons ih fun y hy => ?_
    rcases List.mem_cons.1 hy with rfl | hy
    · exact hab
    · have := srt_head ih hy
      exact (tri_lex a.1.data.toList b.1.data.toList y.1.data.toList).2.1 hab (by omega)
theorem vld_srt {s : List Bd} (h : vldS s = true) : Srt s ∧ s.length ≤ 64 := by
  unfold vldS at h
  rw [Bool.and_eq_true, Bool.and_eq_true, decide_eq_true_eq] at h
  exact ⟨asc_srt s h.2.2, h.1⟩
/-- What holds of all that is bound. -/
theorem ext_all {P : Bd → Prop} {Q : Tm → Prop} (hQ : ∀ n l, Q (.mk n l) → ∀ x ∈ l, Q x) (hP : ∀ v t, varB v = true → Q t → P (v, t)) (lim : Bool) (p : Tm) : ∀ (t : Tm) (s s' : List Bd), extP lim p t s = some s' → (∀ y ∈ s, P y) → Q t → ∀ y ∈ s', P y := by
  induction p using Tm.ind with
  | h n l ih =>
    rintro ⟨m, r⟩ s s' h hs ht
    unfold extP at h
    split at h
    · rename_i hv
      have hv2 : varB n = true := by
        unfold isV at hv
        rw [Bool.and_eq_true] at hv
        exact hv.2
      unfold bindP at h
      split at h
      · split at h
        · cases h; exact hs
        · cases h
      · split at h
        · cases h
        · cases h
          intro y hy
          rcases put_mem.1 hy with rfl | hy
          · exact hP _ _ hv2 ht
          · exact hs y hy
    · split at h
      · have key : ∀ (l : List Tm), (∀ x ∈ l, ∀ (t : Tm) (s s' : List Bd), extP lim x t s = some s' → (∀ y ∈ s, P y) → Q t → ∀ y ∈ s', P y) → ∀ (r : List Tm) (s s' : List Bd), extL lim l r s = some s' → (∀ y ∈ s, P y) → (∀ x ∈ r, Q x) → ∀ y ∈ s', P y := by
          intro l
          induction l with
          | nil =>
            intro _ r s s' h hs _
            unfold extL at h
            cases h
            exact hs
          | cons a l ihl =>
            intro hx r s s' h hs hr
            cases r with
            | nil => unfold extL at h; cases h
            | cons t r =>
              unfold extL at h
              split at h
              · rename_i s1 h1
                exact ihl (fun x hx' => hx x (by simp [hx'])) r s1 s' h (hx a (by simp) t s s1 h1 hs (hr t (by simp))) (fun x hx => hr x (by simp [hx]))
              · cases h
        exact key l ih r s s' h hs (hQ m r ht)
      · cases h
/-- So many zero bindings. -/
def restB : Nat → List Value
  | 0 => []
  | j + 1 => .string ⟨#[]⟩ :: .string ⟨#[]⟩ :: .slice none 0 0 :: restB j
theorem restb_len : ∀ j, (restB j).length = j * 3
  | 0 => rfl
  | j + 1 => by simp [restB, restb_len j]; omega
theorem restb_get : ∀ (j i : Nat), i < j * 3 → (restB j)[i]? = some (if i % 3 = 2 then Value.slice none 0 0 else .string ⟨#[]⟩)
  | 0, i, h => by omega
  | j + 1, 0, _ => rfl
  | j + 1, 1, _ => rfl
  | j + 1, 2, _ => rfl
  | j + 1, i + 3, h => by
    rw [restB, List.getElem?_cons_succ, List.getElem?_cons_succ, List.getElem?_cons_succ, restb_get j i (by omega), show (i + 3) % 3 = i % 3 by omega]
theorem madeb_rest (n : Nat) : (madeCells zB.cells (n * 3)).toList = KB.flat [] ++ restB n := by
  rw [show (KB.flat [] : List Value) = [] from rfl, List.nil_append]
  apply List.ext_getElem?
  intro i
  have hs : zB.cells = #[.string ⟨#[]⟩, .string ⟨#[]⟩, .slice none 0 0] := rfl
  rw [hs]
  by_cases hi : i < n * 3
  · rw [restb_get n i hi]
    unfold madeCells
    rw [Array.getElem?_toList, Array.getElem?_map, Array.getElem?_range]
    rw [if_pos hi]
    have h3 : i % 3 = 0 ∨ i % 3 = 1 ∨ i % 3 = 2 := by omega
    rcases h3 with h | h | h <;> simp [h]
  · have h1 : (restB n)[i]? = none := List.getElem?_eq_none (by rw [restb_len]; omega)
    rw [h1]
    exact List.getElem?_eq_none (by rw [Array.length_toList, size_madeCells]; omega)
theorem restb_at (L : List (Bd × Value)) (j : Nat) (hj : 0 < j) : (KB.flat L ++ restB j)[L.length * 3]? = some (.string ⟨#[]⟩) ∧ (KB.flat L ++ restB j)[L.length * 3 + 1]? = some (.string ⟨#[]⟩) ∧ (KB.flat L ++ restB j)[L.length * 3 + 1 + 1]? = some (.slice none 0 0) := by
  obtain ⟨i, rfl⟩ : ∃ i, j = i + 1 := ⟨j - 1, by omega⟩
  have hl := flat_len (K := KB) L
  refine ⟨?_, ?_, ?_⟩
  · rw [List.getElem?_append_right (by omega), show L.length * 3 - (KB.flat L).length = 0 by omega]; rfl
  · rw [List.getElem?_append_right (by omega), show L.length * 3 + 1 - (KB.flat L).length = 1 by omega]; rfl
  · rw [List.getElem?_append_right (by omega), show L.length * 3 + 1 + 1 - (KB.flat L).length = 2 by omega]; rfl
theorem restb_set (L : List (Bd × Value)) (x : Bd) (v : Value) (j : Nat) (hj : 0 < j) : (((KB.flat L ++ restB j).set (L.length * 3) (.string x.1)).set (L.length * 3 + 1) (.string x.2.nm)).set (L.length * 3 + 1 + 1) v = KB.flat (L ++ [(x, v)]) ++ restB (j - 1) := by
  obtain ⟨i, rfl⟩ : ∃ i, j = i + 1 := ⟨j - 1, by omega⟩
  have hl := flat_len (K := KB) L
  rw [flat_app, flat_one, List.set_append_right _ _ (by omega), List.set_append_right _ _ (by omega), List.set_append_right _ _ (by omega), show L.length * 3 - (KB.flat L).length = 0 by omega, show L.length * 3 + 1 - (KB.flat L).length = 1 by omega, show L.length * 3 + 1 + 1 - (KB.flat L).length = 2 by omega, Nat.add_sub_cancel]
  simp [restB, KB]
theorem sin_own {w : World} {base g n : Nat} {L : List (Bd × Value)} (hl : L.length = n) (h : w.ownsRow base 52 3 (.slice (some ⟨g, 0, none⟩) n n) n (KB.flat L)) (hI : ∀ x ∈ L, KB.inn (fun b => g < b ∧ b < w.heap.size) w x) (hg : g < w.heap.size) :
    SIn (fun b => g ≤ b ∧ b < w.heap.size) w (L.map (·.1)) (.slice (some ⟨g, 0, none⟩) n n) := by
  have hm : n ≤ maxLen := by
    rcases h.2 with ⟨e, _⟩ | ⟨g', cap, cur, e, _, _, hc, hcm, _⟩
    · cases e
    · injection e with _ _ e; omega
  subst hl
  refine ⟨L, rfl, _, _, rfl, Nat.le_refl _, hm, fun x hx => KB.wide (hI x hx) fun b hb => ⟨by omega, hb.2⟩, fun _ => ⟨g, 0, rfl, ⟨Nat.le_refl _, hg⟩, fun i x hx j u hu => ?_⟩⟩
  have hi := (List.getElem?_eq_some_iff.1 hx).1
  have hj := (List.getElem?_eq_some_iff.1 hu).1
  rw [KB.len] at hj
  rw [show 0 + i * 3 + j = i * 3 + j by omega]
  exact (h.cellAt _ (by omega)).trans (flat_get L i x hx j u hu)
end UniP
end Go.Proofs.YtihbnonbhelbmaaGreatDoor
