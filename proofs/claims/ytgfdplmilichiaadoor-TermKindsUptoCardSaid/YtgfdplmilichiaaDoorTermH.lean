/- Ground of the code; lists of terms laid by the call; ascending lists with the same members are one. Condition: at most a million parts. -/
import Derived.Test.YtgfdplmilichiaaDoorTermT
import Derived.Test.YtgfdplmilichiaaDoorTermG
namespace Go.Proofs.YtgfdplmilichiaaDoor
open Go Go.RowKit
namespace TermH
open LexM TermM TermI Kit TermN TermU TermL TermE TermF TermG TermV TermT
theorem slin_of {B B' : Nat} {w : World} {g cap : Nat} {L : List (Tm × Value)} (hg : g < B') (hB : B ≤ B') (hc : L.length ≤ cap) (hm : cap ≤ maxLen) (hcell : Has w g (flatL L).toArray) (hall : ∀ x ∈ L, SlIn (· < B) w x.1.args x.2 ∧ x.1.nm.size ≤ maxLen) :
    SlIn (· < B') w (L.map (·.1)) (.slice (some ⟨g, 0, none⟩) L.length cap) := by
  have hl : (L.map (·.1)).length = L.length := by simp
  rw [← hl]
  have key : ∀ (i : Nat) (t : Tm), (L.map (·.1))[i]? = some t → ∃ x : Tm × Value, L[i]? = some x ∧ x.1 = t := by
    intro i t ht
    rw [List.getElem?_map] at ht
    obtain ⟨x, a, b⟩ := Option.map_eq_some_iff.1 ht
    exact ⟨x, a, b⟩
  refine .mk _ cap _ (fun i => (L.getD i (default, undef)).2) g 0 (fun _ => ⟨rfl, hg⟩) (fun h => by cases h) (by rw [hl]; exact hc) hm (fun i t ht => ?_) (fun i t ht => ?_)
  · obtain ⟨x, hx, rfl⟩ := key i t ht
    obtain ⟨f1, f2⟩ := flatL_get L i x hx
    rw [Nat.zero_add, hcell.cell, hcell.cell]
    refine ⟨by simpa using f1, ?_, (hall x (List.mem_of_getElem? hx)).2⟩
    simp only [List.getElem?_toArray]
    rw [f2]
    simp [List.getD, hx]
  · obtain ⟨x, hx, rfl⟩ := key i t ht
    have := (hall x (List.mem_of_getElem? hx)).1.weaken (ok' := (· < B')) (fun b hb => Nat.lt_of_lt_of_le hb hB)
    simpa [List.getD, hx] using this
theorem asc_tail {a : Tm} {l : List Tm} (h : Asc (a :: l)) : Asc l ∧ ∀ x ∈ l, cmpT a x < 0 := by
  refine ⟨fun i j x y hij hx hy => h (i + 1) (j + 1) x y (by omega) (by simpa using hx) (by simpa using hy), fun x hx => ?_⟩
  obtain ⟨i, hi⟩ := List.mem_iff_getElem?.1 hx
  exact h 0 (i + 1) a x (by omega) rfl (by simpa using hi)
theorem asc_uniq : ∀ (l m : List Tm), Asc l → Asc m → (∀ t, t ∈ l ↔ t ∈ m) → l = m
  | [], [], _, _, _ => rfl
  | [], b :: m, _, _, h => absurd ((h b).2 (by simp)) (by simp)
  | a :: l, [], _, _, h => absurd ((h a).1 (by simp)) (by simp)
  | a :: l, b :: m, hl, hm, h => by
    obtain ⟨l1, l2⟩ := asc_tail hl
    obtain ⟨m1, m2⟩ := asc_tail hm
    have irr : ∀ x : Tm, ¬ cmpT x x < 0 := fun x => by rw [(cmp_zero x x).2 rfl]; decide
    have hab : a = b := by
      rcases List.mem_cons.1 ((h a).1 (by simp)) with e | h1
      · exact e
      · rcases List.mem_cons.1 ((h b).2 (by simp)) with e | h2
        · exact e.symm
        · have h3 := m2 a h1
          have h4 := l2 b h2
          have h5 := cmp_neg a b
          omega
    subst hab
    rw [asc_uniq l m l1 m1 (fun t => ?_)]
    constructor
    · intro ht
      rcases List.mem_cons.1 ((h t).1 (by simp [ht])) with e | h1
      · subst e; exact absurd (l2 t ht) (irr t)
      · exact h1
    · intro ht
      rcases List.mem_cons.1 ((h t).2 (by simp [ht])) with e | h1
      · subst e; exact absurd (m2 t ht) (irr t)
      · exact h1
/-- Valid, and no variable occurs. -/
def groundB (t : Tm) : Bool := validT false 4 t && decide ((varsOf (leavesL [t])).length = 0)
set_option maxHeartbeats 1600000 in
theorem ground_any (t : Tm) (B : Nat) (w : World) (sv : Value) (hB : B ≤ w.heap.size) (hs : t.nm.size ≤ maxLen) (h : SlIn (· < B) w t.args sv) (hz : sizeT t ≤ 1000000) :
    Calls Tryd.prog 20 #[.agg #[.string t.nm, sv]] w fun e w' => e = .returned (.bool (groundB t)) ∧ Below w.heap.size w w' := by
  obtain ⟨p, c, rfl⟩ := h.form
  have HC := Lib.hid (valid_any t B (w.alloc (.cells #[.string t.nm, .slice p t.args.length c] 28)) _ (Nat.le_trans hB (Gr.alloc _ _).size) hs (h.gr (Gr.alloc _ _) hB))
  have HV := Lib.hid (fun w1 (g : Below w.heap.size w w1) => vars_any [t] (w1.heap.size + 1) (w1.alloc (.cells #[.string t.nm, .slice p t.args.length c] 28)) (.slice (some ⟨w1.heap.size, 0, none⟩) 1 1) (by simp)
    (slin_of (B := B) (L := [(t, .slice p t.args.length c)]) (by omega) (by have := g.size; omega) (Nat.le_refl _) (by unfold maxLen; simp) (Has.new w1 _ _) (fun x hx => by
      obtain rfl := List.mem_singleton.1 hx
      exact ⟨h.deep (g.trans (below_alloc w1 _ |>.mono g.size)) hB, hs⟩)) (by simp only [sizeL]; omega))
  have HG : Hid (groundB t = (validT false 4 t && decide ((varsOf (leavesL [t])).length = 0))) := rfl
  generalize groundB t = R at *
  generalize validT false 4 t = V at *
  generalize varsOf (leavesL [t]) = ys at *
  clear h
  cases V
  · go_enter Tryd.func20, Tryd.ntmps20
    go_wp2_with fail
    refine HC.out.mono ?_
    rintro e w2 ⟨rfl, g2⟩
    have D2 := Lib.hid ((Gr.alloc _ _).trans g2).1
    clear g2
    go_wp2_with fail
    go_ret
    exact ⟨ret_bool (by rw [HG.out]; rfl), D2.out⟩
  · go_enter Tryd.func20, Tryd.ntmps20
    go_wp2_with fail
    refine HC.out.mono ?_
    rintro e w2 ⟨rfl, g2⟩
    have D2 := Lib.hid ((Gr.alloc _ _).trans g2).1
    obtain ⟨x1, x2, x3, x4, x5⟩ := (g2.has (Has.new w _ _)).two
    clear g2
    go_wp2_with fail
    refine (HV.out _ D2.out).mono ?_
    rintro e w3 ⟨v3, base, rfl, ho, hb, hd⟩
    have D3 := Lib.hid ((D2.out.trans ((below_alloc w2 _).mono D2.out.size)).trans (hd.mono (by have := D2.out.size; simp; omega)))
    obtain ⟨a3, c3, rfl⟩ := row_form ho
    clear ho hb hd
    go_wp2_with fail
    go_ret
    exact ⟨ret_bool (by rw [HG.out]; rw [Bool.eq_iff_iff]; simp), D3.out⟩
end TermH
end Go.Proofs.YtgfdplmilichiaaDoor
