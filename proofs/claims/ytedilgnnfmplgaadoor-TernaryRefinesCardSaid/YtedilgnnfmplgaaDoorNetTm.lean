/- Rows of numbers that a call makes and fills: the row, its padding, what a call answers. Condition: at most a million numbers. -/
import Derived.Test.YtedilgnnfmplgaaDoorNetTn
import Derived.Test.YtedilgnnfmplgaaDoorGBD
namespace Go.Proofs.YtedilgnnfmplgaaDoor
open Go Go.RowKit
namespace NetTm
open Kit TermM TermI NetM NetN NetK NetA NetI NetTn
theorem t3_i64 {x : Int} (h : T3 x) : I64 x := by
  unfold I64
  rcases h with rfl | rfl | rfl <;> omega
theorem tnumv_set {C : List Int} {j : Nat} {x : Int} : (numV C).set j (.int .i64 x) = numV (C.set j x) := by simp [numV, List.map_set]
theorem tnumv_get {C : List Int} {j : Nat} {x : Int} (h : C[j]? = some x) : (numV C)[j]? = some (.int .i64 x) := by simp [numV, h]
theorem make_i (w : World) (n : Nat) (hn : n ≤ 1000000) : ∃ w', (Instr.makeSlice 29 (.int .i64 n) (.int .i64 n)).run Tryd.prog w = .ok (.slice (some ⟨w.heap.size, 0, none⟩) n n) w' ∧ w'.ownsRow w.heap.size 3 1 (.slice (some ⟨w.heap.size, 0, none⟩) n n) n (numV (List.replicate n 0)) ∧ w.grownBy w' none := by
  obtain ⟨i, hi, hz, hs, hb⟩ := info_parts Tryd.infoN
  obtain ⟨w', h1, h2, h3⟩ := run_make_full (P := Tryd.prog) w w.heap.size 29 3 i (.int .i64 0) 1 Tryd.underlying29 hi hz hs .i64 .i64 n (by rw [hb]; omega) (by unfold maxLen; omega) (Nat.le_refl _)
  refine ⟨w', h1, ?_, h3⟩
  have e : (madeCells (Value.int .i64 0).cells (n * 1)).toList = numV (List.replicate n 0) := by
    rw [Nat.mul_one, show (Value.int .i64 0).cells = #[.int .i64 0] from rfl, toList_madeCells_one]
    simp [numV]
  rw [e] at h2
  exact h2
/-- Numbers and an error. -/
def IntE (L : List Int) (er : Int) (w : World) (e : Ending) (w' : World) : Prop := ∃ v, e = .returned (.tuple #[v, .int .i64 er]) ∧ RowE KN (fun b => w.heap.size ≤ b ∧ b < w'.heap.size) w' L v ∧ Below w.heap.size w w'
theorem IntE.mk {L : List Int} {er : Int} {w w' : World} {v : Value} (h : RowE KN (fun b => w.heap.size ≤ b ∧ b < w'.heap.size) w' L v) (h2 : Below w.heap.size w w') : IntE L er w (.returned (.tuple #[v, .int .i64 er])) w' := ⟨v, rfl, h, h2⟩
theorem IntE.no {L : List Int} {er c : Int} {w w' : World} (h : er = c ∧ L = []) (h2 : Below w.heap.size w w') : IntE L er w (.returned (.tuple #[.slice none 0 0, .int .i64 c])) w' := by
  obtain ⟨rfl, rfl⟩ := h
  exact ⟨_, rfl, RowE.nil _ _, h2⟩
/-- Numbers. -/
def InsE (L : List Int) (w : World) (e : Ending) (w' : World) : Prop := ∃ v, e = .returned v ∧ RowE KN (fun b => w.heap.size ≤ b ∧ b < w'.heap.size) w' L v ∧ Below w.heap.size w w'
theorem InsE.mk {L : List Int} {w w' : World} {v : Value} (h : RowE KN (fun b => w.heap.size ≤ b ∧ b < w'.heap.size) w' L v) (h2 : Below w.heap.size w w') : InsE L w (.returned v) w' := ⟨v, rfl, h, h2⟩
theorem InsE.no {L : List Int} {w w' : World} (h : L = []) (h2 : Below w.heap.size w w') : InsE L w (.returned (.slice none 0 0)) w' := by
  subst h
  exact ⟨_, rfl, RowE.nil _ _, h2⟩
/-- Values of the first gates, the rest zero. -/
def padT (V : List Int) (m : Nat) : List Int := V ++ List.replicate (m - V.length) 0
theorem padt_len {V : List Int} {m : Nat} (h : V.length ≤ m) : (padT V m).length = m := by
  unfold padT
  simp
  omega
theorem padt_set {V : List Int} {m : Nat} (h : V.length < m) (b : Int) : (padT V m).set V.length b = padT (V ++ [b]) m := by
  unfold padT
  rw [List.set_append_right _ _ (Nat.le_refl _), Nat.sub_self, show m - V.length = (m - (V.length + 1)) + 1 by omega, List.replicate_succ, List.set_cons_zero]
  simp
theorem padt_full {V : List Int} {m : Nat} (h : V.length = m) : padT V m = V := by
  unfold padT
  rw [h, Nat.sub_self]
  simp
theorem padt_at {V : List Int} {m : Nat} {x : Int} (h0 : 0 ≤ x) (h : x < V.length) : tAt (padT V m) x = tAt V x := t_app h0 h _
theorem padt_get {V : List Int} {m k : Nat} (h : V.length = k) (hk : k < m) : (padT V m)[k]? = some 0 := by
  unfold padT
  rw [List.getElem?_append_right (by omega), h, Nat.sub_self, List.getElem?_replicate, if_pos (by omega)]
theorem padt_nil (m : Nat) : padT [] m = List.replicate m 0 := by
  unfold padT
  simp
theorem padt_i64 {V : List Int} {m : Nat} (h : ∀ x ∈ V, T3 x) : ∀ x ∈ padT V m, T3 x := by
  unfold padT
  intro x hx
  rcases List.mem_append.1 hx with k | k
  · exact h x k
  · exact Or.inl (List.eq_of_mem_replicate k)
end NetTm
end Go.Proofs.YtedilgnnfmplgaaDoor
