/- Texts laid together: TermH. Their own heads stand before each. -/
import Derived.Test.YtgbbpliihglijaaGreatGAH
import Derived.Test.YtgbbpliihglijaaGreatGAC
/- Ground of the code; lists of terms laid by the call; ascending lists with the same members are one. Condition: at most a million parts. -/
namespace Go.Proofs.YtgbbpliihglijaaGreat
open Go Go.RowKit
namespace TermH
open LexM TermM TermI Kit TermN TermU TermL TermE TermF TermV
theorem slin_of {B B' : Nat} {w : World} {g cap : Nat} {L : List (Tm × Value)} (hg : g < B') (hB : B ≤ B') (hc : L.length ≤ cap) (hm : cap ≤ maxLen) (hcell : Has w g (flatL L).toArray) (hall : ∀ x ∈ L, SlIn (· < B) w x.1.args x.2 ∧ x.1.nm.size ≤ maxLen) :
    SlIn (· < B') w (L.map (·.1)) (.slice (some ⟨g, 0, none⟩) L.length cap) := by
  have hl : (L.map (·.1)).length = L.length := by simp
  rw [← hl]
  have key : ∀ (i : Nat) (t : Tm), (L.map (·.1))[i]? = some t → ∃ x : Tm × Value, L[i]? = some x ∧ x.1 = t := by
    intro i t ht
    rw [List.getElem?_map] at ht
    obtain ⟨x, a, b⟩ := Option.map_eq_some_iff.1 ht
    exact ⟨x, a, b⟩
  refine .mk _ cap _ (fun i => (L.getD i (default, undef)).2) g 0 (fun _ => ⟨rfl, hg⟩) (fun h => by cases h) (by rw [hl]; exact hc) hm (fun i t ht => ?_) (fun i t ht => ?_)
  · obtain ⟨x, hx, rfl⟩ := key i t ht
    obtain ⟨f1, f2⟩ := flatL_get L i x hx
    rw [Nat.zero_add, hcell.cell, hcell.cell]
    refine ⟨by simpa using f1, ?_, (hall x (List.mem_of_getElem? hx)).2⟩
    simp only [List.getElem?_toArray]
    rw [f2]
    simp [List.getD, hx]
  · obtain ⟨x, hx, rfl⟩ := key i t ht
    have := (hall x (List.mem_of_getElem? hx)).1.weaken (ok' := (· < B')) (fun b hb => Nat.lt_of_lt_of_le hb hB)
    simpa [List.getD, hx] using this
/-- Valid, and no variable occurs. -/
def groundB (t : Tm) : Bool := validT false 4 t && decide ((varsOf (leavesL [t])).length = 0)
set_option maxHeartbeats 1600000 in
theorem ground_any (t : Tm) (B : Nat) (w : World) (sv : Value) (hB : B ≤ w.heap.size) (hs : t.nm.size ≤ maxLen) (h : SlIn (· < B) w t.args sv) (hz : sizeT t ≤ 1000000) :
    Calls Tryz.prog 57 #[.agg #[.string t.nm, sv]] w fun e w' => e = .returned (.bool (groundB t)) ∧ Below w.heap.size w w' := by
  obtain ⟨p, c, rfl⟩ := h.form
  have HC := Lib.hid (valid_any t B (w.alloc (.cells #[.string t.nm, .slice p t.args.length c] 58)) _ (Nat.le_trans hB (Gr.alloc _ _).size) hs (h.gr (Gr.alloc _ _) hB))
  have HV := Lib.hid (fun w1 (g : Below w.heap.size w w1) => vars_any [t] (w1.heap.size + 1) (w1.alloc (.cells #[.string t.nm, .slice p t.args.length c] 58)) (.slice (some ⟨w1.heap.size, 0, none⟩) 1 1) (by simp)
    (slin_of (B := B) (L := [(t, .slice p t.args.length c)]) (by omega) (by have := g.size; omega) (Nat.le_refl _) (by unfold maxLen; simp) (Has.new w1 _ _) (fun x hx => by
      obtain rfl := List.mem_singleton.1 hx
      exact ⟨h.deep (g.trans (below_alloc w1 _ |>.mono g.size)) hB, hs⟩)) (by simp only [sizeL]; omega))
  have HG : Hid (groundB t = (validT false 4 t && decide ((varsOf (leavesL [t])).length = 0))) := rfl
  generalize groundB t = R at *
  generalize validT false 4 t = V at *
  generalize varsOf (leavesL [t]) = ys at *
  clear h
  cases V
  · go_enter Tryz.func57, Tryz.ntmps57
    go_wp2_with fail
    refine HC.out.mono ?_
    rintro e w2 ⟨rfl, g2⟩
    have D2 := Lib.hid ((Gr.alloc _ _).trans g2).1
    clear g2
    go_wp2_with fail
    go_ret
    exact ⟨ret_bool (by rw [HG.out]; rfl), D2.out⟩
  · go_enter Tryz.func57, Tryz.ntmps57
    go_wp2_with fail
    refine HC.out.mono ?_
    rintro e w2 ⟨rfl, g2⟩
    have D2 := Lib.hid ((Gr.alloc _ _).trans g2).1
    obtain ⟨x1, x2, x3, x4, x5⟩ := (g2.has (Has.new w _ _)).two
    clear g2
    go_wp2_with fail
    refine (HV.out _ D2.out).mono ?_
    rintro e w3 ⟨v3, base, rfl, ho, hb, hd⟩
    have D3 := Lib.hid ((D2.out.trans ((below_alloc w2 _).mono D2.out.size)).trans (hd.mono (by have := D2.out.size; simp; omega)))
    obtain ⟨a3, c3, rfl⟩ := row_form ho
    clear ho hb hd
    go_wp2_with fail
    go_ret
    exact ⟨ret_bool (by rw [HG.out]; rw [Bool.eq_iff_iff]; simp), D3.out⟩
theorem con_var {n : ByteArray} (h : conB n = true) : varB n = false := by
  unfold conB numB nameB at h
  unfold varB
  generalize n.data.toList = l at *
  cases hv : varL l with
  | false => rfl
  | true =>
    exfalso
    cases l with
    | nil => simp [varL, headB] at hv
    | cons b r =>
      simp only [varL, headB, upB, Bool.and_eq_true, decide_eq_true_eq] at hv
      simp only [nameL, isNum, headB, loB, allB, dgB, List.all_cons, Bool.or_eq_true, Bool.and_eq_true, decide_eq_true_eq] at h
      rcases h with h | h
      · omega
      · omega
theorem vars_nil : ∀ (xs M : List ByteArray), (xs.foldl addV M).length = 0 ↔ M.length = 0 ∧ ∀ x ∈ xs, varB x = false
  | [], M => by simp
  | a :: r, M => by
    rw [List.foldl_cons, vars_nil r (addV M a)]
    unfold addV
    cases hv : varB a with
    | false => simp [hv]
    | true =>
      cases hh : hasB M a with
      | false => simp [hv]
      | true =>
        have : M ≠ [] := by intro e; subst e; simp [hasB] at hh
        simp [hv]
        intro e
        exact absurd e this
theorem ground_leaf (d : Nat) : ∀ t : Tm, validT true d t = true ↔ validT false d t = true ∧ ∀ x ∈ leavesT t, varB x = false := by
  induction d with
  | zero => intro t; cases t; simp [validT]
  | succ d ih =>
    rintro ⟨n, l⟩
    cases l with
    | nil =>
      simp only [validT, List.isEmpty_nil, if_true, leavesT, Bool.not_true, Bool.false_and, Bool.or_false, Bool.not_false, Bool.true_and, Bool.or_eq_true, List.mem_singleton, forall_eq]
      constructor
      · intro h; exact ⟨Or.inl h, con_var h⟩
      · rintro ⟨h | h, h2⟩
        · exact h
        · rw [h] at h2; cases h2
    | cons a r =>
      simp only [validT, List.isEmpty_cons, Bool.false_eq_true, if_false, leavesT, Bool.and_eq_true, List.all_eq_true]
      have hL : ∀ l : List Tm, (∀ x ∈ leavesL l, varB x = false) ↔ ∀ t ∈ l, ∀ x ∈ leavesT t, varB x = false := by
        intro l
        induction l with
        | nil => simp [leavesL]
        | cons b s ihl =>
          simp only [leavesL, List.mem_append, List.mem_cons, forall_eq_or_imp]
          constructor
          · intro h; exact ⟨fun x hx => h x (Or.inl hx), ihl.1 (fun x hx => h x (Or.inr hx))⟩
          · rintro ⟨h1, h2⟩ x (hx | hx)
            · exact h1 x hx
            · exact ihl.2 h2 x hx
      rw [hL]
      constructor
      · rintro ⟨h1, h2⟩
        exact ⟨⟨h1, fun t ht => ((ih t).1 (h2 t ht)).1⟩, fun t ht => ((ih t).1 (h2 t ht)).2⟩
      · rintro ⟨⟨h1, h2⟩, h3⟩
        exact ⟨h1, fun t ht => (ih t).2 ⟨h2 t ht, h3 t ht⟩⟩
theorem ground_eq (t : Tm) : groundB t = validT true 4 t := by
  rw [Bool.eq_iff_iff, ground_leaf 4 t]
  unfold groundB
  rw [Bool.and_eq_true, decide_eq_true_eq]
  have h := vars_nil (leavesL [t]) []
  have e : leavesL [t] = leavesT t := by simp [leavesL]
  unfold varsOf
  rw [h, e]
  simp
end TermH
end Go.Proofs.YtgbbpliihglijaaGreat
