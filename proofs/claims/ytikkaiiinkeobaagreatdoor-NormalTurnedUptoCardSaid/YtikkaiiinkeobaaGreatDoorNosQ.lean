/- The variables of a rule, ascending, each once, as plain data. No conditions. -/
import Derived.Test.YtikkaiiinkeobaaGreatDoorNosS
import Derived.Test.YtikkaiiinkeobaaGreatDoorGAN
import Derived.Lib.SlicesCompact
namespace Go.Proofs.YtikkaiiinkeobaaGreatDoor
open Go Go.RowKit
namespace NosQ
open LexM TermM TermI Kit TermN TermU TermL TermE UniM UniK NosS NorM NorQ NorS
theorem lt_list : ∀ x y : List UInt8, x < y ↔ lexB x y < 0
  | [], [] => by simp [lexB]
  | [], b :: y => by simp [lexB]
  | a :: x, [] => by simp [lexB]
  | a :: x, b :: y => by
    rw [List.cons_lt_cons_iff, lt_list x y, show lexB (a :: x) (b :: y) = thn (sg a.toNat b.toNat) (lexB x y) by rw [lexB]]
    unfold thn sg
    rw [UInt8.lt_iff_toNat_lt, ← UInt8.toNat_inj]
    by_cases h1 : a.toNat < b.toNat
    · simp [h1]
    · by_cases h2 : b.toNat < a.toNat
      · simp [h1, h2]
        omega
      · have h3 : a.toNat = b.toNat := by omega
        simp [h3]
theorem le_list (x y : List UInt8) : x ≤ y ↔ lexB x y ≤ 0 := by
  have h : x ≤ y ↔ ¬ (y < x) := Iff.rfl
  rw [h, lt_list, lex_neg x y]
  omega
theorem lex_trans {x y z : List UInt8} (h1 : lexB x y ≤ 0) (h2 : lexB y z ≤ 0) : lexB x z ≤ 0 := (tri_lex x y z).1 h1 h2
theorem sorted (ls : List (List UInt8)) : (ls.mergeSort fun x y => decide (x ≤ y)).Pairwise fun x y => lexB x y ≤ 0 := by
  have h := List.pairwise_mergeSort (le := fun x y : List UInt8 => decide (x ≤ y)) (fun a b c h1 h2 => by
    simp only [decide_eq_true_eq, le_list] at h1 h2 ⊢
    exact lex_trans h1 h2) (fun a b => by
    simp only [Bool.or_eq_true, decide_eq_true_eq, le_list]
    rw [lex_neg a b]
    omega) ls
  exact h.imp fun h => by simpa [le_list] using h
theorem compact_upto (d : Array (List UInt8)) (hs : ∀ i j, i < j → j < d.size → lexB d[i]! d[j]! ≤ 0) : ∀ m, m ≤ d.size →
    (∀ x ∈ Lib.compactUpTo d m, ∃ j, j < m ∧ d[j]! = x) ∧ (∀ j, j < m → d[j]! ∈ Lib.compactUpTo d m) ∧ (Lib.compactUpTo d m).Pairwise fun x y => lexB x y < 0
  | 0, _ => ⟨fun x hx => by simp [Lib.compactUpTo] at hx, fun j hj => by omega, by simp [Lib.compactUpTo]⟩
  | m + 1, hm => by
    obtain ⟨h1, h2, h3⟩ := compact_upto d hs m (by omega)
    rw [Lib.compactUpTo_succ]
    by_cases hk : Lib.keeps d m = true
    · rw [if_pos hk]
      refine ⟨fun x hx => ?_, fun j hj => ?_, ?_⟩
      · rcases List.mem_append.1 hx with hx | hx
        · obtain ⟨j, a, b⟩ := h1 x hx; exact ⟨j, by omega, b⟩
        · obtain rfl := List.mem_singleton.1 hx; exact ⟨m, by omega, rfl⟩
      · by_cases e : j = m
        · subst e; simp
        · exact List.mem_append_left _ (h2 j (by omega))
      · refine List.pairwise_append.2 ⟨h3, by simp, fun a ha b hb => ?_⟩
        obtain rfl := List.mem_singleton.1 hb
        obtain ⟨j, hj, rfl⟩ := h1 a ha
        have hm0 : m ≠ 0 := by omega
        have hne : d[m]! ≠ d[m - 1]! := by
          unfold Lib.keeps at hk
          rcases of_decide_eq_true hk with h | h
          · exact absurd h hm0
          · exact h
        have a1 : lexB d[m - 1]! d[m]! ≤ 0 := hs (m - 1) m (by omega) (by omega)
        have a2 : lexB d[m - 1]! d[m]! ≠ 0 := fun h => hne ((lex_zero _ _).1 h).symm
        by_cases e : j = m - 1
        · subst e; omega
        · exact (tri_lex d[j]! d[m - 1]! d[m]!).2.2.1 (hs j (m - 1) (by omega) (by omega)) (by omega)
    · rw [if_neg hk, List.append_nil]
      refine ⟨fun x hx => ?_, fun j hj => ?_, h3⟩
      · obtain ⟨j, a, b⟩ := h1 x hx; exact ⟨j, by omega, b⟩
      · by_cases e : j = m
        · subst e
          unfold Lib.keeps at hk
          have hk' : ¬ (j = 0 ∨ d[j]! ≠ d[j - 1]!) := fun h => hk (decide_eq_true h)
          have h0 : j ≠ 0 := fun h => hk' (Or.inl h)
          have h9 : d[j]! = d[j - 1]! := Decidable.not_not.1 (fun h => hk' (Or.inr h))
          rw [h9]
          exact h2 (j - 1) (by omega)
        · exact h2 j (by omega)
theorem compact_srt (ls : List (List UInt8)) (hs : ls.Pairwise fun x y => lexB x y ≤ 0) : (∀ x, x ∈ Lib.compact ls ↔ x ∈ ls) ∧ (Lib.compact ls).Pairwise fun x y => lexB x y < 0 := by
  have hg : ∀ i, i < ls.length → ls.toArray[i]! = ls[i]! := fun i hi => by rw [getElem!_pos _ i (by simpa using hi), getElem!_pos _ i hi]; simp
  obtain ⟨h1, h2, h3⟩ := compact_upto ls.toArray (fun i j hij hj => by
    have hj' : j < ls.length := by simpa using hj
    rw [hg i (by omega), hg j hj', getElem!_pos _ i (by omega), getElem!_pos _ j hj']
    exact List.pairwise_iff_getElem.1 hs i j (by omega) hj' hij) ls.length (by simp)
  refine ⟨fun x => ⟨fun h => ?_, fun h => ?_⟩, h3⟩
  · obtain ⟨j, hj, rfl⟩ := h1 x h
    rw [hg j hj, getElem!_pos _ j hj]
    exact List.getElem_mem hj
  · obtain ⟨j, hj, rfl⟩ := List.mem_iff_getElem.1 h
    have := h2 j hj
    rwa [hg j hj, getElem!_pos _ j hj] at this
theorem has_iff {M : List ByteArray} {s : ByteArray} : hasB M s = true ↔ s ∈ M := by
  unfold hasB
  rw [List.any_eq_true]
  constructor
  · rintro ⟨x, hx, he⟩
    rw [beq_iff_eq] at he
    rw [← bytes_inj he]
    exact hx
  · intro h
    exact ⟨s, h, by simp⟩
theorem add_mem {M : List ByteArray} {s v : ByteArray} : v ∈ addV M s ↔ v ∈ M ∨ v = s ∧ varB v = true := by
  unfold addV
  split
  · next h =>
    rw [List.mem_append, List.mem_singleton]
    constructor
    · rintro (h1 | rfl)
      · exact Or.inl h1
      · exact Or.inr ⟨rfl, h.1⟩
    · rintro (h1 | ⟨h1, _⟩)
      · exact Or.inl h1
      · exact Or.inr h1
  · next h =>
    constructor
    · exact Or.inl
    · rintro (h1 | ⟨rfl, h2⟩)
      · exact h1
      · cases hh : hasB M v
        · exact absurd ⟨h2, hh⟩ h
        · exact has_iff.1 hh
theorem add_nodup {M : List ByteArray} {s : ByteArray} (h : M.Nodup) : (addV M s).Nodup := by
  unfold addV
  split
  · next hc =>
    rw [List.nodup_append]
    refine ⟨h, by simp, fun a ha b hb => ?_⟩
    obtain rfl := List.mem_singleton.1 hb
    rintro rfl
    rw [has_iff.2 ha] at hc
    exact absurd hc.2 (by simp)
  · exact h
theorem vars_fold : ∀ (xs M : List ByteArray), M.Nodup → (xs.foldl addV M).Nodup ∧ ∀ v, v ∈ xs.foldl addV M ↔ v ∈ M ∨ v ∈ xs ∧ varB v = true
  | [], M, h => ⟨h, fun v => by simp⟩
  | a :: r, M, h => by
    obtain ⟨h1, h2⟩ := vars_fold r (addV M a) (add_nodup h)
    rw [List.foldl_cons]
    refine ⟨h1, fun v => ?_⟩
    rw [h2, add_mem]
    constructor
    · rintro ((h | ⟨rfl, h⟩) | ⟨h, h'⟩)
      · exact Or.inl h
      · exact Or.inr ⟨by simp, h⟩
      · exact Or.inr ⟨by simp [h], h'⟩
    · rintro (h | ⟨h, h'⟩)
      · exact Or.inl (Or.inl h)
      · rcases List.mem_cons.1 h with rfl | h
        · exact Or.inl (Or.inr ⟨rfl, h'⟩)
        · exact Or.inr ⟨h, h'⟩
theorem vars_mem {xs : List ByteArray} {v : ByteArray} : v ∈ varsOf xs ↔ v ∈ xs ∧ varB v = true := by
  have := (vars_fold xs [] List.nodup_nil).2 v
  unfold varsOf
  rw [this]
  simp
theorem vars_nodup (xs : List ByteArray) : (varsOf xs).Nodup := (vars_fold xs [] List.nodup_nil).1
theorem sort_iff {vs : List ByteArray} {v : ByteArray} : v ∈ sortB vs ↔ v ∈ vs := by
  refine ⟨sortB_mem, fun h => ?_⟩
  unfold sortB bytesOf
  refine List.mem_map.2 ⟨v.data.toList, List.mem_mergeSort.2 ?_, rfl⟩
  unfold lists
  exact List.mem_map_of_mem h
theorem cs_mem {vs : List ByteArray} {v : ByteArray} : v ∈ compactB (sortB vs) ↔ v ∈ vs := by
  rw [← sort_iff (vs := vs)]
  unfold compactB
  have hs : lists (sortB vs) = (lists vs).mergeSort fun x y => decide (x ≤ y) := by unfold sortB; rw [lists_bytes]
  rw [hs]
  unfold bytesOf
  rw [List.mem_map]
  constructor
  · rintro ⟨l, hl, rfl⟩
    have := ((compact_srt _ (sorted _)).1 l).1 hl
    rw [← hs] at this
    unfold lists at this
    obtain ⟨x, hx, rfl⟩ := List.mem_map.1 this
    exact hx
  · intro h
    refine ⟨v.data.toList, ((compact_srt _ (sorted _)).1 _).2 ?_, rfl⟩
    rw [← hs]
    exact List.mem_map.2 ⟨v, h, rfl⟩
theorem cs_srt (vs : List ByteArray) : (compactB (sortB vs)).Pairwise fun x y => lexB x.data.toList y.data.toList < 0 := by
  have hs : lists (sortB vs) = (lists vs).mergeSort fun x y => decide (x ≤ y) := by unfold sortB; rw [lists_bytes]
  unfold compactB
  rw [hs]
  unfold bytesOf
  rw [List.pairwise_map]
  exact (compact_srt _ (sorted _)).2
/-- The variables of the head and of the literals, one after the other. -/
def vsCat (h : Tm) (l : List Lt) : List ByteArray := varsOf (leavesL [h]) ++ l.flatMap fun x => varsOf (leavesL [x.2])
theorem vscat_next (h : Tm) (l : List Lt) (k : Nat) (x : Lt) (hx : l[k]? = some x) : vsCat h (l.take (k + 1)) = vsCat h (l.take k) ++ varsOf (leavesL [x.2]) := by
  unfold vsCat
  rw [take_get l k x hx, List.flatMap_append, List.append_assoc]
  simp
/-- The variables of a rule, ascending, each once. -/
def VsR (r : Rl) : List ByteArray := compactB (sortB (vsCat r.1 r.2))
theorem vsr_mem (r : Rl) (n : ByteArray) : n ∈ VsR r ↔ varB n = true ∧ n ∈ lvsR r := by
  unfold VsR
  rw [cs_mem, mem_lvs]
  unfold vsCat
  rw [List.mem_append, List.mem_flatMap]
  simp only [vars_mem, leavesL, List.append_nil]
  constructor
  · rintro (⟨h1, h2⟩ | ⟨x, hx, h1, h2⟩)
    · exact ⟨h2, Or.inl h1⟩
    · exact ⟨h2, Or.inr ⟨x, hx, h1⟩⟩
  · rintro ⟨h2, h1 | ⟨x, hx, h1⟩⟩
    · exact Or.inl ⟨h1, h2⟩
    · exact Or.inr ⟨x, hx, h1, h2⟩
theorem vsr_srt (r : Rl) : (VsR r).Pairwise fun x y => lexB x.data.toList y.data.toList < 0 := cs_srt _
theorem vsr_vars (r : Rl) : IsVars r (VsR r) := by
  refine ⟨?_, vsr_mem r⟩
  rw [List.nodup_iff_pairwise_ne]
  exact (vsr_srt r).imp fun {a b} h e => by
    subst e
    rw [(lex_zero _ _).2 rfl] at h
    omega
end NosQ
end Go.Proofs.YtikkaiiinkeobaaGreatDoor
