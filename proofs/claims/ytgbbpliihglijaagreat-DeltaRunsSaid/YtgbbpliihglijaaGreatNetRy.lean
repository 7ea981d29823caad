/- Readers of the package: what it makes at first, and bounds. No conditions but those that are written. Made by gnRz.py. -/
import Derived.Test.YtgbbpliihglijaaGreatNetRr
import Derived.Test.YtgbbpliihglijaaGreatGBD
namespace Go.Proofs.YtgbbpliihglijaaGreat
open Go Go.RowKit
namespace NetRy
open Kit TermM TermI NetM NetN NetK NetA NetC NetI NetOk NetRe NetRr
theorem lin_le {l : List Int} {k : Nat} (h : numsB l k = true) : l.length ≤ k := by
  have h1 := alln_true.1 h
  have h2 : ∀ j, j < l.length → (j : Int) ≤ at0 l j := by
    intro j
    induction j with
    | zero =>
      intro hj
      have := h1 0 hj
      unfold numAt at this
      rw [Bool.and_eq_true, inb_iff] at this
      exact this.1.1
    | succ j ih =>
      intro hj
      have := h1 (j + 1) hj
      unfold numAt at this
      rw [Bool.and_eq_true, Bool.or_eq_true, decide_eq_true_eq, decide_eq_true_eq, Nat.add_sub_cancel] at this
      have h3 := ih (by omega)
      rcases this.2 with h4 | h4 <;> omega
  by_cases h0 : l.length = 0
  · omega
  · have h3 := h2 (l.length - 1) (by omega)
    have h4 := h1 (l.length - 1) (by omega)
    unfold numAt at h4
    rw [Bool.and_eq_true, inb_iff] at h4
    omega
theorem gate_lin {f : Tm → Bool} {n : Nt} (h : chkN f n = 0) {k : Nat} {g : Gt} (hg : n.gates[k]? = some g) : g.2.2.length ≤ k := by
  unfold chkN at h
  by_cases h1 : 16384 < n.gates.length
  · rw [if_pos h1] at h
    exact absurd h (by decide)
  rw [if_neg h1] at h
  by_cases h2 : gatesE n 0 n.gates = 0
  · have h3 := gates_all h2 k g hg
    rw [Nat.zero_add] at h3
    unfold gateE at h3
    split at h3
    · exact absurd h3 (by decide)
    · split at h3
      · exact absurd h3 (by decide)
      · split at h3
        · exact absurd h3 (by decide)
        · split at h3
          · exact absurd h3 (by decide)
          · rename_i h4
            exact lin_le (by simpa using h4)
  · rw [if_pos h2] at h
    exact absurd h h2
/-- Counts, each from 0 to b. -/
def CntB (C : List Int) (b : Int) : Prop := ∀ c ∈ C, 0 ≤ c ∧ c ≤ b
theorem cnt_set {C : List Int} {b c : Int} {j : Nat} (h : CntB C b) (hc : C[j]? = some c) : CntB (C.set j (c + 1)) (b + 1) := by
  have h1 := h c (List.mem_of_getElem? hc)
  intro x hx
  rcases List.mem_or_eq_of_mem_set hx with h2 | h2
  · have := h x h2; omega
  · subst h2; omega
/-- Rows of at most b numbers. -/
def ReB (R : List (List Int)) (b : Nat) : Prop := ∀ l ∈ R, l.length ≤ b
theorem re_set {R : List (List Int)} {b i : Nat} {x : Int} (h : ReB R b) : ReB (reStep i R x) (b + 1) := by
  intro l hl
  unfold reStep at hl
  rcases List.mem_or_eq_of_mem_set hl with h2 | h2
  · have := h l h2; omega
  · subst h2
    rw [List.length_append]
    have : (reAt R x.toNat).length ≤ b := by
      unfold reAt
      rw [List.getD_eq_getElem?_getD]
      cases hq : R[x.toNat]? with
      | none => simp
      | some y => exact h y (List.mem_of_getElem? hq)
    simp
    omega
theorem numv_set {C : List Int} {j : Nat} {x : Int} : (numV C).set j (.int .i64 x) = numV (C.set j x) := by simp [numV, List.map_set]
theorem numv_get {C : List Int} {j : Nat} {x : Int} (h : C[j]? = some x) : (numV C)[j]? = some (.int .i64 x) := by simp [numV, h]
theorem make_n (w : World) (n : Nat) (hn : n ≤ 1000000) : ∃ w', (Instr.makeSlice 25 (.int .i64 n) (.int .i64 n)).run Tryz.prog w = .ok (.slice (some ⟨w.heap.size, 0, none⟩) n n) w' ∧ w'.ownsRow w.heap.size 3 1 (.slice (some ⟨w.heap.size, 0, none⟩) n n) n (numV (List.replicate n 0)) ∧ w.grownBy w' none := by
  obtain ⟨i, hi, hz, hs, hb⟩ := info_parts Tryz.infoN
  obtain ⟨w', h1, h2, h3⟩ := run_make_full (P := Tryz.prog) w w.heap.size 25 3 i (.int .i64 0) 1 Tryz.underlying25 hi hz hs .i64 .i64 n (by rw [hb]; omega) (by unfold maxLen; omega) (Nat.le_refl _)
  refine ⟨w', h1, ?_, h3⟩
  have e : (madeCells (Value.int .i64 0).cells (n * 1)).toList = numV (List.replicate n 0) := by
    rw [Nat.mul_one, show (Value.int .i64 0).cells = #[.int .i64 0] from rfl, toList_madeCells_one]
    simp [numV]
  rw [e] at h2
  exact h2
theorem make_e (w : World) (c : Int) (h0 : 0 ≤ c) (hc : c ≤ 1000000000) : ∃ w', (Instr.makeSlice 25 (.int .i64 0) (.int .i64 c)).run Tryz.prog w = .ok (.slice (some ⟨w.heap.size, 0, none⟩) 0 c.toNat) w' ∧ (∀ base, base ≤ w.heap.size → w'.ownsRow base 3 1 (.slice (some ⟨w.heap.size, 0, none⟩) 0 c.toNat) 0 []) ∧ Below w.heap.size w w' := by
  obtain ⟨i, hi, hz, hs, hb⟩ := info_parts Tryz.infoN
  have h1 := run_make (P := Tryz.prog) w 25 3 i (.int .i64 0) Tryz.underlying25 hi hz .i64 .i64 0 c (Int.le_refl _) h0 (by rw [hb]; omega) (by omega)
  refine ⟨_, h1, fun base hb => World.ownsRow_made w _ _ hb (by unfold maxLen; omega) (by rw [size_madeCells, hs]), below_alloc _ _⟩
theorem Tryz.infoR : (Tryz.prog.info? 25).map (fun i => (i.zero, i.size, i.bytes)) = some (some (.slice none 0 0), 1, 24) := by kernel_rfl
theorem make_r (w : World) (n : Nat) (hn : n ≤ 1000000) : ∃ w', (Instr.makeSlice 69 (.int .i64 n) (.int .i64 n)).run Tryz.prog w = .ok (.slice (some ⟨w.heap.size, 0, none⟩) n n) w' ∧ RowsR (w.heap.size + 1) w' w.heap.size n (List.replicate n []) (List.replicate n (.slice none 0 0)) ∧ Below w.heap.size w w' := by
  obtain ⟨i, hi, hz, hs, hb⟩ := info_parts Tryz.infoR
  obtain ⟨w', h1, h2, h3⟩ := run_make_full (P := Tryz.prog) w w.heap.size 69 25 i (.slice none 0 0) 1 Tryz.underlying69 hi hz hs .i64 .i64 n (by rw [hb]; omega) (by unfold maxLen; omega) (Nat.le_refl _)
  have e : (madeCells (Value.slice none 0 0).cells (n * 1)).toList = List.replicate n (.slice none 0 0) := by
    rw [Nat.mul_one, show (Value.slice none 0 0).cells = #[.slice none 0 0] from rfl, toList_madeCells_one]
  rw [e] at h2
  have rep : ∀ (j : Nat) (v : Value), (List.replicate n (Value.slice none 0 0))[j]? = some v → v = .slice none 0 0 := fun j v hv => List.eq_of_mem_replicate (List.mem_of_getElem? hv)
  refine ⟨w', h1, ⟨by simp, by simp, fun j v hv => ?_, fun j => h2.frozenAt j, (h2.lt _ rfl).2, by omega, fun j l v hl hv => ?_, fun a b u v c hu _ hc _ => ?_⟩, (Below.refl w.heap.size w).grown h3 (Nat.le_refl _) (fun k h => by cases h)⟩
  · rw [h2.cellAt j (by have := (List.getElem?_eq_some_iff.1 hv).1; simp at this; omega)]
    exact hv
  · rw [rep j v hv, List.eq_of_mem_replicate (List.mem_of_getElem? hl)]
    exact nil_own _ _ _ _
  · rw [rep a u hu] at hc
    cases hc
theorem rep_set (n j : Nat) : (List.replicate n ([] : List Int)).set j [] = List.replicate n [] := by
  refine List.ext_getElem? fun i => ?_
  rw [List.getElem?_set]
  split
  · rename_i h
    subst h
    split
    · rename_i h2
      rw [List.getElem?_replicate, if_pos (by simpa using h2)]
    · rename_i h2
      rw [List.getElem?_replicate, if_neg (by simpa using h2)]
  · rfl
end NetRy
end Go.Proofs.YtgbbpliihglijaaGreat
