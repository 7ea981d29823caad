/- append of a row of structs onto a row of one's own: as a law for the walk, also behind a guard that holds. No conditions. -/
import Derived.Test.YtdalepdpobcpaaaDoorParQ
import Derived.OwnWalk
import Derived.Laws.OwnMore
import Derived.Tactics
namespace Go.Proofs.YtdalepdpobcpaaaDoor
open Go Go.RowKit
namespace ParAp
open Kit LexM TermM TermI TermU LexP ParM ParK
theorem wpList_held {P : Program} {w : World} {ops : Array Oper} {rest : List Oper} {o : Oper} {a : Act} {Q : Exit → Act → World → Prop} (hg : Region.wanted o (yielded ops a.tmps) = true)
    (h : ∀ K : Act → World → Prop, (∀ a w, wpList P ops Q rest a w → K a w) → o.wp P a w K Q) : wpList P ops Q (o :: rest) a w :=
  wpList_step fun K hK => by rw [if_pos hg]; exact h K hK
theorem run_append_none0 {P : Program} {w : World} (base : Nat) (t ty e : TypeId) (i : TypeInfo) (size : Nat) (ht : P.underlying t = some (.slice e)) (hi : P.info? e = some i)
    (v : Value) (n : Nat) (xs : List Value) (hown : w.ownsRow base e size v n xs) (c : Nat) :
    (Builtin.append_ #[t, t] ty #[v, .slice none 0 c]).run P w = .ok v w := by
  rcases hown.2 with ⟨rfl, rfl⟩ | ⟨g, cap, cur, rfl, _, _, hnc, _⟩
  · simp [Builtin.append_, run_underlying ht, sizeOf, typeInfo, hi, Builtin.lenOf, Builtin.firstCells]
  · simp [Builtin.append_, run_underlying ht, sizeOf, typeInfo, hi, Builtin.lenOf, Builtin.firstCells, hnc, storeCells]
section
variable {α : Type} {K : Kd α}
theorem flat_at : ∀ (L : List α) (j : Nat) (u : Value), (K.flat L)[j]? = some u → ∃ i x r, L[i]? = some x ∧ (K.cells x)[r]? = some u ∧ j = i * 3 + r
  | [], j, u, h => by simp [Kd.flat] at h
  | a :: L, j, u, h => by
    have hl := K.len a
    simp only [Kd.flat, List.flatMap_cons] at h
    rcases Nat.lt_or_ge j 3 with h3 | h3
    · rw [List.getElem?_append_left (by omega)] at h
      exact ⟨0, a, j, rfl, h, by omega⟩
    · rw [List.getElem?_append_right (by omega)] at h
      obtain ⟨i, x, r, h1, h2, h4⟩ := flat_at L (j - (K.cells a).length) u h
      exact ⟨i + 1, x, r, by simpa using h1, h2, by omega⟩
theorem wp_append_row {w : World} {o : Oper} {a : Act} {KK : Act → World → Prop} {Q : Exit → Act → World → Prop} (s x : Operand) (t : TypeId)
    (ho : o.op = .call { callee := .builtin .append, args := #[s, x], argTypes := #[t, t] })
    (base : Nat) (i : TypeInfo) (z : Value) (bytes : Nat) (ht : Tryd.prog.underlying t = some (.slice K.ty)) (hi : Tryd.prog.info? K.ty = some i) (hz : i.zero = some z)
    (hsize : i.size = 3) (hby : i.bytes = bytes) (hzs : z.cells.size = 3) (L : List α) (h1 : ∀ x ∈ L, ∀ u ∈ K.cells x, u.oneCell' = true)
    (v : Value) (n : Nat) (xs : List Value) (hs : a.eval s = v) (hown : w.ownsRow base K.ty 3 v n xs)
    (ok : Nat → Prop) (vx : Value) (hx : a.eval x = vx) (hR : RowG K ok w L vx)
    (h63 : n + L.length ≤ maxLen) (hbytes : (n + L.length) * bytes ≤ 140737488355328) (hbase : base ≤ w.heap.size)
    (h : ∀ v' w', w'.ownsRow base K.ty 3 v' (n + L.length) (xs ++ K.flat L) → w.grownBy w' v.ownBlock → KK (a.put o.dst v') w') : o.wp Tryd.prog a w KK Q := by
  obtain ⟨p, c, rfl, hc, hm, hin, hp⟩ := hR
  cases p with
  | none =>
    have hl : L = [] := by
      cases L with
      | nil => rfl
      | cons y L =>
        obtain ⟨g, o', e, _⟩ := hp (by simp)
        cases e
    subst hl
    have hrun := run_append_none0 (P := Tryd.prog) base t o.type K.ty i 3 ht hi v n xs hown c
    have hk := h v w (by simpa [Kd.flat] using hown) ⟨rfl, rfl, rfl, Nat.le_refl _, fun _ _ _ => rfl⟩
    unfold Oper.wp
    simp [execOp, ho, resolve, invoke, builtin, hs, hx, hrun, Result.andThen]
    exact hk
  | some ad =>
    refine wp_append_own w s x t ho base K.ty i z 3 bytes ht hi hz hsize hby hzs (by decide) v n xs hs hown ad L.length c (K.flat L) hx (flat_len L) ?_ ?_ h63 hbytes hbase fun v' w' h2 h3 _ => h v' w' h2 h3
    · intro j u hj
      obtain ⟨i', y, r, e1, e2, rfl⟩ := flat_at L j u hj
      obtain ⟨g, o', e, _, hcell⟩ := hp (by have := (List.getElem?_eq_some_iff.1 e1).1; omega)
      cases e
      rw [addr_add, ← Nat.add_assoc]
      exact hcell i' y e1 r u e2
    · intro u hu
      obtain ⟨y, hy, hyu⟩ := List.mem_flatMap.1 hu
      exact h1 y hy u hyu
theorem row_of_own {ok : Nat → Prop} {base : Nat} {w : World} {L : List α} {v : Value} (h : w.ownsRow base K.ty 3 v L.length (K.flat L)) (hi : ∀ x ∈ L, K.inn ok w x) (ho : ∀ g, v.ownBlock = some g → ok g) : RowG K ok w L v := by
  rcases h.2 with ⟨e, hz⟩ | ⟨g, cap, cur, e, e2, e3, e4, e5, _⟩
  · exact ⟨none, 0, by rw [e, hz], by omega, Nat.zero_le _, hi, fun h => by omega⟩
  · subst e
    refine ⟨_, cap, rfl, e4, e5, hi, fun _ => ⟨g, 0, rfl, ho g rfl, fun i x hx j u hu => ?_⟩⟩
    have hii := (List.getElem?_eq_some_iff.1 hx).1
    have hj := (List.getElem?_eq_some_iff.1 hu).1
    rw [K.len] at hj
    rw [show 0 + i * 3 + j = i * 3 + j by omega]
    exact (h.cellAt _ (by omega)).trans (flat_get L i x hx j u hu)
end
theorem one_KR (x : Rl × Value × Value) (h : (∃ p n c, x.2.1 = .slice p n c) ∧ ∃ p n c, x.2.2 = .slice p n c) : ∀ u ∈ KR.cells x, u.oneCell' = true := by
  obtain ⟨⟨p, n, c, e1⟩, q, m, d, e2⟩ := h
  intro u hu
  have hu' : u ∈ [Value.string x.1.1.nm, x.2.1, x.2.2] := hu
  simp at hu'
  rcases hu' with rfl | rfl | rfl
  · rfl
  · rw [e1]; rfl
  · rw [e2]; rfl
theorem one_row {ok : Nat → Prop} {w : World} {L : List (Rl × Value × Value)} {v : Value} (h : RowG KR ok w L v) : ∀ x ∈ L, ∀ u ∈ KR.cells x, u.oneCell' = true := fun x hx => by
  obtain ⟨_, _, _, _, _, hi, _⟩ := h
  obtain ⟨p, c, h1⟩ := (hi x hx).1.form
  obtain ⟨q, d, h2⟩ := (hi x hx).2.2.form
  exact one_KR x ⟨⟨p, _, c, h1⟩, q, _, d, h2⟩
end ParAp
end Go.Proofs.YtdalepdpobcpaaaDoor
