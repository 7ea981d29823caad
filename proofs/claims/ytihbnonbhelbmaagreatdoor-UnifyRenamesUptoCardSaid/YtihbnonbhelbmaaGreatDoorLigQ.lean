/- Rows of pairs of the call's own; append of a whole row onto an empty row of the call's own. Made by genlig.py. Conditions: sizes as the append asks. -/
import Derived.Test.YtihbnonbhelbmaaGreatDoorLigP
import Derived.Test.YtihbnonbhelbmaaGreatDoorUniR
namespace Go.Proofs.YtihbnonbhelbmaaGreatDoor
open Go Go.RowKit
namespace LigQ
open LexM TermM TermI Kit TermN TermU UniK UniM LigP UniJ UniO
/-- A row of the call's own, of pairs whose terms lie in older blocks. -/
def OwnP (base : Nat) (w : World) (L : List (Bd × Value)) (v : Value) : Prop := w.ownsRow base 142 3 v L.length (KP.flat L) ∧ ∀ x ∈ L, KP.inn (· < base) w x
theorem OwnP.nil (base : Nat) (w : World) : OwnP base w [] (.slice none 0 0) := ⟨⟨rfl, Or.inl ⟨rfl, rfl⟩⟩, fun x h => by simp at h⟩
theorem OwnP.drewN {base : Nat} {w : World} {L : List (Bd × Value)} {v : Value} (h : OwnP base w L v) (n : Nat) : OwnP base (w.drewN n) L v := ⟨⟨h.1.1, h.1.2⟩, fun x hx => KP.keep (h.2 x hx) fun _ _ _ => rfl⟩
theorem OwnP.form {base : Nat} {w : World} {L : List (Bd × Value)} {v : Value} (h : OwnP base w L v) : ∃ a c, v = .slice a L.length c := by
  rcases h.1.2 with ⟨e, hz⟩ | ⟨g, cap, cur, e, _⟩
  · exact ⟨none, 0, by rw [e, hz]⟩
  · exact ⟨_, cap, e⟩
theorem OwnP.add {base g cap : Nat} {w2 w3 : World} {o : Obj} {L : List (Bd × Value)} {v : Value} {x : Bd × Value} (h : OwnP base w2 L v) (hb : base ≤ w2.heap.size) (hx : KP.inn (· < base) w2 x)
    (hown : w3.ownsRow base 142 3 (.slice (some ⟨g, 0, none⟩) (L.length + 1) cap) (L.length + 1) (KP.flat L ++ KP.cells x)) (hgrow : (w2.alloc o).grownBy w3 v.ownBlock) :
    OwnP base w3 (L ++ [x]) (.slice (some ⟨g, 0, none⟩) (L.length + 1) cap) ∧ Below base w2 w3 := by
  have hl := h.1.lt
  have hB : Below base w2 w3 := ((Below.refl base w2).alloc hb o).grown hgrow (by simp; omega) (fun k hk => (hl k hk).1)
  refine ⟨⟨by rw [List.length_append, flat_app, flat_one]; exact hown, fun y hy => ?_⟩, hB⟩
  have k : ∀ y, KP.inn (· < base) w2 y → KP.inn (· < base) w3 y := fun y h => KP.keep h fun b o hlt => hB.cell (p := ⟨b, o, none⟩) hlt
  rcases List.mem_append.1 hy with hy | hy
  · exact k y (h.2 y hy)
  · obtain rfl := List.mem_singleton.1 hy
    exact k _ hx
theorem OwnP.sin {base : Nat} {w : World} {L : List (Bd × Value)} {v : Value} (h : OwnP base w L v) (hb : base ≤ w.heap.size) : PIn (· < w.heap.size) w (L.map (·.1)) v := by
  have hl := h.1.lt
  refine ⟨L, rfl, ?_⟩
  rcases h.1.2 with ⟨e, hz⟩ | ⟨g, cap, cur, e, e2, e3, e4, e5, _⟩
  · exact ⟨none, 0, by rw [e, hz], by omega, Nat.zero_le _, fun x hx => KP.wide (h.2 x hx) fun b hlt => by omega, fun h => by omega⟩
  · subst e
    refine ⟨_, cap, rfl, e4, e5, fun x hx => KP.wide (h.2 x hx) fun b hlt => by omega, fun _ => ⟨g, 0, rfl, (hl g rfl).2, fun i x hx j u hu => ?_⟩⟩
    have hi := (List.getElem?_eq_some_iff.1 hx).1
    have hj := (List.getElem?_eq_some_iff.1 hu).1
    rw [KP.len] at hj
    rw [show 0 + i * 3 + j = i * 3 + j by omega]
    exact (h.1.cellAt _ (by omega)).trans (flat_get L i x hx j u hu)
theorem kb_one {ok : Nat → Prop} {w : World} {x : Bd × Value} (h : KP.inn ok w x) : ∀ u ∈ KP.cells x, u.oneCell' = true := by
  obtain ⟨p, c, e⟩ := h.1.form
  intro u hu
  simp only [KP, e, List.mem_cons, List.not_mem_nil, or_false] at hu
  rcases hu with rfl | rfl | rfl <;> rfl
theorem flat_one' {ok : Nat → Prop} {w : World} {L : List (Bd × Value)} (h : ∀ x ∈ L, KP.inn ok w x) : ∀ u ∈ KP.flat L, u.oneCell' = true := by
  intro u hu
  unfold Kd.flat at hu
  obtain ⟨x, hx, hu⟩ := List.mem_flatMap.1 hu
  exact kb_one (h x hx) u hu

section
variable {P : Program} {w : World}
theorem run_append_zero (t ty e : TypeId) (i : TypeInfo) (ht : P.underlying t = some (.slice e)) (hi : P.info? e = some i) (H0 : Nat) (q : Option Addr) (c : Nat) :
    (Builtin.append_ #[t, t] ty #[.slice (some ⟨H0, 0, none⟩) 0 0, .slice q 0 c]).run P w = .ok (.slice (some ⟨H0, 0, none⟩) 0 0) w := by
  cases q with
  | none => simp [Builtin.append_, run_underlying ht, sizeOf, typeInfo, hi, Builtin.lenOf, Builtin.firstCells, storeCells]
  | some a => simp [Builtin.append_, run_underlying ht, sizeOf, typeInfo, hi, Builtin.lenOf, Builtin.firstCells, loadCells, loadCellsFrom, storeCells]
/-- At a step of a drawn region: append([]T{}, l...). -/
theorem step_append_onto {ops : Array Oper} {o : Oper} {a : Act} {K : Act → World → Prop} {Q : Exit → Act → World → Prop} {E : Prop} (hgd : o.guard = none) (s x : Operand) (t : TypeId)
    (ho : o.op = .call { callee := .builtin .append, args := #[s, x], argTypes := #[t, t] })
    (base : Nat) (e : TypeId) (i : TypeInfo) (z : Value) (size bytes : Nat) (ht : P.underlying t = some (.slice e)) (hi : P.info? e = some i) (hz : i.zero = some z)
    (hsize : i.size = size) (hby : i.bytes = bytes) (hzs : z.cells.size = size) (hsz : 0 < size)
    (H0 : Nat) (hs : a.eval s = .slice (some ⟨H0, 0, none⟩) 0 0) (hown : w.ownsRow base e size (.slice (some ⟨H0, 0, none⟩) 0 0) 0 [])
    (q : Option Addr) (m c : Nat) (news : List Value) (hx : a.eval x = .slice q m c) (hl : news.length = m * size) (hnews : 0 < m → ∃ ad, q = some ad ∧ ∀ j u, news[j]? = some u → w.cell? (ad.add j) = some u) (h1 : ∀ u ∈ news, u.oneCell' = true)
    (h63 : m ≤ maxLen) (hbytes : m * bytes ≤ 140737488355328) (hbase : base ≤ w.heap.size)
    (h : ∀ g cap w', w'.ownsRow base e size (.slice (some ⟨g, 0, none⟩) m cap) m news → w.grownBy w' (some H0) → g < w'.heap.size → K (a.put o.dst (.slice (some ⟨g, 0, none⟩) m cap)) w') :
    if Region.wanted o (yielded ops a.tmps) = true then Oper.wp P o a w K Q else E := by
  have hw : Region.wanted o (yielded ops a.tmps) = true := by simp [Region.wanted, hgd]
  rw [if_pos hw]
  have hlt : H0 < w.heap.size := (hown.lt H0 rfl).2
  rcases Nat.eq_zero_or_pos m with hm | hm
  · subst hm
    have hn : news = [] := List.eq_nil_of_length_eq_zero (by simpa using hl)
    subst hn
    have hr := run_append_zero (P := P) (w := w) t o.type e i ht hi H0 q c
    unfold Oper.wp execOp
    simp only [ho, resolve, invoke, builtin, Sem.run_bind, Sem.run_pure, Result.andThen_ok, List.map_toArray, List.map_cons, List.map_nil, hs, hx, hr]
    exact h H0 0 w hown ⟨rfl, rfl, rfl, Nat.le_refl _, fun _ _ _ => rfl⟩ hlt
  · obtain ⟨ad, rfl, hc⟩ := hnews hm
    refine wp_append_lies w s x t ho base e i z size bytes ht hi hz hsize hby hzs hsz _ 0 [] hs hown ad m c news hx hl hc h1 hm (by omega) (by rw [Nat.zero_add]; exact hbytes) hbase w.heap.size rfl fun g cap w' h2 h3 _ h5 => ?_
    rw [Nat.zero_add] at h2 ⊢
    exact h g cap w' h2 h3 h5
end
/-- The cells of a row of pairs. -/
theorem pin_cells {ok : Nat → Prop} {w : World} {l : List Bd} {v : Value} (h : PIn ok w l v) : ∃ (L : List (Bd × Value)) (p : Option Addr) (c : Nat), v = .slice p l.length c ∧ L.map (·.1) = l ∧ L.length = l.length ∧ (∀ x ∈ L, KP.inn ok w x) ∧
    (0 < l.length → ∃ b o, p = some ⟨b, o, none⟩ ∧ ok b ∧ ∀ j u, (KP.flat L)[j]? = some u → w.cell? ⟨b, o + j, none⟩ = some u) := by
  obtain ⟨L, rfl, p, c, e, h1, h2, h3, h4⟩ := h
  refine ⟨L, p, c, by rw [e]; simp, rfl, by simp, h3, fun hp => ?_⟩
  obtain ⟨g, o, e1, e2, e3⟩ := h4 (by simpa using hp)
  exact ⟨g, o, e1, e2, flat_at e3⟩
/-- A row of the call's own, of pairs of a kind: a list of pairs in memory. -/
theorem own_pin {ok : Nat → Prop} {base : Nat} {w : World} {L : List (Bd × Value)} {v : Value} (h : w.ownsRow base 142 3 v L.length (KP.flat L)) (hx : ∀ x ∈ L, KP.inn ok w x) (hk : ∀ b, base ≤ b → b < w.heap.size → ok b) : PIn ok w (L.map (·.1)) v := by
  have hl := h.lt
  refine ⟨L, rfl, ?_⟩
  rcases h.2 with ⟨e, hz⟩ | ⟨g, cap, cur, e, e2, e3, e4, e5, _⟩
  · exact ⟨none, 0, by rw [e, hz], by omega, Nat.zero_le _, hx, fun h => by omega⟩
  · subst e
    refine ⟨_, cap, rfl, e4, e5, hx, fun _ => ⟨g, 0, rfl, hk g (hl g rfl).1 (hl g rfl).2, fun i x hx j u hu => ?_⟩⟩
    have hi := (List.getElem?_eq_some_iff.1 hx).1
    have hj := (List.getElem?_eq_some_iff.1 hu).1
    rw [KP.len] at hj
    rw [show 0 + i * 3 + j = i * 3 + j by omega]
    exact (h.cellAt _ (by omega)).trans (flat_get L i x hx j u hu)
end LigQ
end Go.Proofs.YtihbnonbhelbmaaGreatDoor
