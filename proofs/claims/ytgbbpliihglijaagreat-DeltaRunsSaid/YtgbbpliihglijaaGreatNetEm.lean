/- delta's engine in memory. No conditions. Made by gnEm.py. -/
import Derived.Test.YtgbbpliihglijaaGreatNetDn
import Derived.Test.YtgbbpliihglijaaGreatNetDc
namespace Go.Proofs.YtgbbpliihglijaaGreat
open Go Go.RowKit
namespace NetEm
open Kit TermM TermI NetM NetN NetK NetA NetC NetI NetMk NetNu NetOk NetEv NetBo NetDn
/-- The engine of block ge: its gates from block gb on, its values in block gv. K: kind, index, how many gates it reads; T: how many of them are true; R: its readers' slice; V: the values. -/
structure EngM (w : World) (ge gb gv m cb cv : Nat) (K : List (Int × Int × Int)) (T : List Int) (R : List Value) (V : List Bool) : Prop where
  lenK : K.length = m
  lenT : T.length = m
  lenR : R.length = m
  lenV : V.length = m
  self : w.cell? ⟨ge, 0, none⟩ = some (.pointer (some ⟨ge, 0, none⟩))
  gates : w.cell? ⟨ge, 1, none⟩ = some (.slice (some ⟨gb, 0, none⟩) m cb)
  values : w.cell? ⟨ge, 2, none⟩ = some (.slice (some ⟨gv, 0, none⟩) m cv)
  val : ∀ (j : Nat) (b : Bool), V[j]? = some b → w.cell? ⟨gv, j, none⟩ = some (.bool b)
  kind : ∀ (j : Nat) (a b c : Int), K[j]? = some (a, b, c) → w.cell? ⟨gb, j * 5, none⟩ = some (.int .i64 a) ∧ w.cell? ⟨gb, j * 5 + 1, none⟩ = some (.int .i64 b) ∧ w.cell? ⟨gb, j * 5 + 2, none⟩ = some (.int .i64 c)
  trues : ∀ (j : Nat) (t : Int), T[j]? = some t → w.cell? ⟨gb, j * 5 + 3, none⟩ = some (.int .i64 t)
  readers : ∀ (j : Nat) (v : Value), R[j]? = some v → w.cell? ⟨gb, j * 5 + 4, none⟩ = some v
  freeb : ∀ q : Nat, w.frozen? ⟨gb, q, none⟩ = false
  freev : ∀ q : Nat, w.frozen? ⟨gv, q, none⟩ = false
  ne1 : ge ≠ gb
  ne2 : ge ≠ gv
  ne3 : gb ≠ gv
section
variable {w : World} {ge gb gv m cb cv : Nat} {K : List (Int × Int × Int)} {T : List Int} {R : List Value} {V : List Bool}
/-- What touches none of the engine's blocks. -/
theorem EngM.keep {w' : World} (h : EngM w ge gb gv m cb cv K T R V) (hc : ∀ b o : Nat, (b = ge ∨ b = gb ∨ b = gv) → w'.cell? ⟨b, o, none⟩ = w.cell? ⟨b, o, none⟩ ∧ w'.frozen? ⟨b, o, none⟩ = w.frozen? ⟨b, o, none⟩) : EngM w' ge gb gv m cb cv K T R V :=
  ⟨h.lenK, h.lenT, h.lenR, h.lenV, (hc ge 0 (Or.inl rfl)).1.trans h.self, (hc ge 1 (Or.inl rfl)).1.trans h.gates, (hc ge 2 (Or.inl rfl)).1.trans h.values,
    fun j b hj => (hc gv j (Or.inr (Or.inr rfl))).1.trans (h.val j b hj),
    fun j a b c hj => ⟨(hc gb _ (Or.inr (Or.inl rfl))).1.trans (h.kind j a b c hj).1, (hc gb _ (Or.inr (Or.inl rfl))).1.trans (h.kind j a b c hj).2.1, (hc gb _ (Or.inr (Or.inl rfl))).1.trans (h.kind j a b c hj).2.2⟩,
    fun j t hj => (hc gb _ (Or.inr (Or.inl rfl))).1.trans (h.trues j t hj), fun j v hj => (hc gb _ (Or.inr (Or.inl rfl))).1.trans (h.readers j v hj),
    fun q => (hc gb q (Or.inr (Or.inl rfl))).2.trans (h.freeb q), fun q => (hc gv q (Or.inr (Or.inr rfl))).2.trans (h.freev q), h.ne1, h.ne2, h.ne3⟩
/-- A store into another block. -/
theorem EngM.other {p : Addr} {u : Value} (h : EngM w ge gb gv m cb cv K T R V) (hp : p.block ≠ ge ∧ p.block ≠ gb ∧ p.block ≠ gv) : EngM (w.setCell p u) ge gb gv m cb cv K T R V :=
  h.keep fun b o hb => ⟨World.cell?_setCell_other _ _ _ _ (by intro e; subst e; rcases hb with h | h | h <;> simp_all), World.frozen?_setCell _ _ _ _⟩
/-- A value is stored. -/
theorem EngM.setV {j : Nat} {b : Bool} (h : EngM w ge gb gv m cb cv K T R V) (hj : j < m) : EngM (w.setCell ⟨gv, j, none⟩ (.bool b)) ge gb gv m cb cv K T R (V.set j b) := by
  have oth : ∀ q o : Nat, q ≠ gv ∨ o ≠ j → (w.setCell ⟨gv, j, none⟩ (.bool b)).cell? ⟨q, o, none⟩ = w.cell? ⟨q, o, none⟩ := fun q o hq => World.cell?_setCell_other _ _ _ _ (by intro e; injection e with e1 e2; omega)
  have n1 := h.ne2
  have n2 := h.ne3
  refine ⟨h.lenK, h.lenT, h.lenR, by rw [List.length_set]; exact h.lenV, (oth _ _ (Or.inl n1)).trans h.self, (oth _ _ (Or.inl n1)).trans h.gates, (oth _ _ (Or.inl n1)).trans h.values, fun i c hi => ?_, fun i a b c hi => ⟨(oth _ _ (Or.inl n2)).trans (h.kind i a b c hi).1, (oth _ _ (Or.inl n2)).trans (h.kind i a b c hi).2.1, (oth _ _ (Or.inl n2)).trans (h.kind i a b c hi).2.2⟩, fun i t hi => (oth _ _ (Or.inl n2)).trans (h.trues i t hi), fun i v hi => (oth _ _ (Or.inl n2)).trans (h.readers i v hi), fun q => by rw [World.frozen?_setCell]; exact h.freeb q, fun q => by rw [World.frozen?_setCell]; exact h.freev q, h.ne1, h.ne2, h.ne3⟩
  rw [List.getElem?_set] at hi
  by_cases e : j = i
  · subst e
    rw [if_pos rfl, if_pos (by rw [h.lenV]; exact hj)] at hi
    rw [← Option.some.inj hi]
    obtain ⟨c0, hc0⟩ : ∃ c0, V[j]? = some c0 := ⟨V[j]'(by rw [h.lenV]; exact hj), by simp⟩
    exact World.cell?_setCell_same _ _ _ (h.val j c0 hc0)
  · rw [if_neg e] at hi
    exact (oth _ _ (Or.inr (fun e2 => e e2.symm))).trans (h.val i c hi)
/-- A count is stored. -/
theorem EngM.setT {j : Nat} {t : Int} (h : EngM w ge gb gv m cb cv K T R V) (hj : j < m) : EngM (w.setCell ⟨gb, j * 5 + 3, none⟩ (.int .i64 t)) ge gb gv m cb cv K (T.set j t) R V := by
  have oth : ∀ q o : Nat, q ≠ gb ∨ o ≠ j * 5 + 3 → (w.setCell ⟨gb, j * 5 + 3, none⟩ (.int .i64 t)).cell? ⟨q, o, none⟩ = w.cell? ⟨q, o, none⟩ := fun q o hq => World.cell?_setCell_other _ _ _ _ (by intro e; injection e with e1 e2; omega)
  have n1 := h.ne1
  have n3 := h.ne3
  refine ⟨h.lenK, by rw [List.length_set]; exact h.lenT, h.lenR, h.lenV, (oth _ _ (Or.inl n1)).trans h.self, (oth _ _ (Or.inl n1)).trans h.gates, (oth _ _ (Or.inl n1)).trans h.values, fun i c hi => (oth _ _ (Or.inl (fun e => n3 e.symm))).trans (h.val i c hi), fun i a b c hi => ⟨(oth _ _ (Or.inr (by omega))).trans (h.kind i a b c hi).1, (oth _ _ (Or.inr (by omega))).trans (h.kind i a b c hi).2.1, (oth _ _ (Or.inr (by omega))).trans (h.kind i a b c hi).2.2⟩, fun i s hi => ?_, fun i v hi => (oth _ _ (Or.inr (by omega))).trans (h.readers i v hi), fun q => by rw [World.frozen?_setCell]; exact h.freeb q, fun q => by rw [World.frozen?_setCell]; exact h.freev q, h.ne1, h.ne2, h.ne3⟩
  rw [List.getElem?_set] at hi
  by_cases e : j = i
  · subst e
    rw [if_pos rfl, if_pos (by rw [h.lenT]; exact hj)] at hi
    rw [← Option.some.inj hi]
    obtain ⟨c0, hc0⟩ : ∃ c0, T[j]? = some c0 := ⟨T[j]'(by rw [h.lenT]; exact hj), by simp⟩
    exact World.cell?_setCell_same _ _ _ (h.trues j c0 hc0)
  · rw [if_neg e] at hi
    exact (oth _ _ (Or.inr (by omega))).trans (h.trues i s hi)
end
end NetEm
end Go.Proofs.YtgbbpliihglijaaGreat
