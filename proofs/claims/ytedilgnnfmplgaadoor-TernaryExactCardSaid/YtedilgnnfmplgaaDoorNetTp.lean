/- Three-valued evaluation: exact where nothing is unknown, monotone in what is known; as plain data. Conditions as they stand. -/
import Derived.Test.YtedilgnnfmplgaaDoorNetTn
import Derived.Test.YtedilgnnfmplgaaDoorGBD
import Derived.Test.YtedilgnnfmplgaaDoorNetBp
namespace Go.Proofs.YtedilgnnfmplgaaDoor
open Go
namespace NetTp
open LexM TermM NetM NetN NetMk NetOk NetEv NetRv NetTn NetBp
def b2t (b : Bool) : Int := if b then 1 else 0
theorem t_map (V : List Bool) (x : Int) : tAt (V.map b2t) x = b2t (vAt V x) := by
  unfold tAt vAt
  rw [List.getD_eq_getElem?_getD, List.getD_eq_getElem?_getD, List.getElem?_map]
  cases V[x.toNat]? <;> rfl
theorem step_b (k : Int) (v x : Bool) : tstep k (b2t v) (b2t x) = b2t (rvS k v x) := by
  unfold tstep rvS
  by_cases h4 : k = 4
  · rw [if_pos h4, if_pos h4]
    cases v <;> cases x <;> rfl
  rw [if_neg h4, if_neg h4]
  by_cases h5 : k = 5
  · rw [if_pos h5, if_pos h5]
    cases v <;> cases x <;> rfl
  rw [if_neg h5, if_neg h5]
  by_cases h6 : k = 6
  · rw [if_pos h6, if_pos h6]
    cases x <;> rfl
  rw [if_neg h6, if_neg h6]
theorem fold_b (k : Int) (V : List Bool) : ∀ (l : List Int) (v : Bool), tfold k (V.map b2t) (b2t v) l = b2t (rvL k V v l)
  | [], _ => rfl
  | x :: l, v => by
    show tfold k (V.map b2t) (tstep k (b2t v) (tAt (V.map b2t) x)) l = b2t (rvL k V (rvS k v (vAt V x)) l)
    rw [t_map, step_b, fold_b k V l]
/-- The given values are those of a list of numbers. -/
def Giv (bs : List Int) (st : List Int) (m : Nat) : Prop := ∀ x : Int, 0 ≤ x → x < (m : Int) → tAt bs x = b2t (decide (x ∈ st))
theorem gate_b {n : Nt} {i : Nat} {g : Gt} {bs is st ip : List Int} (hb : Giv bs st n.bases.length) (hi : Giv is ip n.inputs.length) (V : List Bool) (ok : GOk n i g) : tgN bs is (V.map b2t) g = b2t (gvN st ip V g) := by
  rw [← rv_all st ip V ok]
  unfold tgN
  rw [← fold_b]
  congr 1
  have x0 := ok.x0
  have xm := ok.xm
  unfold mostIx at xm
  unfold tinit rv3 rv2 rv1
  by_cases h2 : g.1 = 2
  · rw [if_pos h2] at xm
    rw [if_pos h2, if_neg (by omega), if_pos h2, hb _ x0 xm]
    cases decide (g.2.1 ∈ st) <;> rfl
  rw [if_neg h2] at xm
  by_cases h3 : g.1 = 3
  · rw [if_pos h3] at xm
    rw [if_neg h2, if_pos h3, if_pos h3, hi _ x0 xm]
    cases decide (g.2.1 ∈ ip) <;> rfl
  rw [if_neg h2, if_neg h3, if_neg h3, if_neg h2]
  by_cases h1 : g.1 = 1
  · rw [if_pos (Or.inl h1), h1]
    rfl
  by_cases h4 : g.1 = 4
  · rw [if_pos (Or.inr h4), h4]
    rfl
  · rw [if_neg (by omega)]
    have : (g.1 == 1 || g.1 == 4) = false := by simp [h1, h4]
    rw [this]
    rfl
theorem exact_to {n : Nt} {bs is st ip : List Int} (hn : NOk n) (hb : Giv bs st n.bases.length) (hi : Giv is ip n.inputs.length) : ∀ k : Nat, k ≤ n.gates.length → tvalsTo bs is n.gates k = (valsTo st ip n.gates k).map b2t
  | 0, _ => rfl
  | k + 1, h => by
    obtain ⟨g, hg⟩ : ∃ g, n.gates[k]? = some g := ⟨n.gates[k]'(by omega), by simp⟩
    rw [tvals_next bs is n.gates hg, vals_next st ip n.gates hg, exact_to hn hb hi k (by omega), gate_b hb hi _ (hn.gate k g hg), List.map_append]
    rfl
theorem exact_n {n : Nt} {bs is st ip : List Int} (hn : NOk n) (hb : Giv bs st n.bases.length) (hi : Giv is ip n.inputs.length) : tvalsN bs is n = (valsN st ip n).map b2t := by
  rw [← tvals_all, ← vals_all, exact_to hn hb hi _ (Nat.le_refl _)]
theorem giv_set {st : List Int} {m : Nat} : Giv (tsetL (List.replicate m 0) 1 st) st m := by
  intro x h0 h1
  obtain ⟨j, rfl⟩ : ∃ j : Nat, x = (j : Int) := ⟨x.toNat, by omega⟩
  refine t_get ?_
  rw [show ((j : Int)).toNat = j by omega, tsetl_get, List.getElem?_replicate, if_pos (by omega)]
  show some (if (j : Int) ∈ st then (1 : Int) else 0) = some (b2t (decide ((j : Int) ∈ st)))
  congr 1
  by_cases h : (j : Int) ∈ st
  · rw [if_pos h, decide_eq_true h]
    rfl
  · rw [if_neg h, decide_eq_false h]
    rfl
/-! ### Refinement -/
/-- Entry by entry, with the defaults beyond the end. -/
def Ref (a b : List Int) : Prop := a.length = b.length ∧ ∀ j, j < b.length → ref1 (tAt a j) (tAt b j) = true
theorem ref_refl (x : Int) : ref1 x x = true := by
  unfold ref1
  simp
theorem Ref.at {a b : List Int} (h : Ref a b) (x : Int) (hx : 0 ≤ x) : ref1 (tAt a x) (tAt b x) = true := by
  obtain ⟨j, rfl⟩ : ∃ j : Nat, x = (j : Int) := ⟨x.toNat, by omega⟩
  by_cases hj : j < b.length
  · exact h.2 j hj
  · have e1 : tAt a j = 0 := by unfold tAt; rw [List.getD_eq_getElem?_getD, List.getElem?_eq_none (by have := h.1; omega)]; rfl
    have e2 : tAt b j = 0 := by unfold tAt; rw [List.getD_eq_getElem?_getD, List.getElem?_eq_none (by omega)]; rfl
    rw [e1, e2]
    exact ref_refl 0
theorem refn_iff {a b : List Int} : refN a b = true ↔ Ref a b := by
  unfold refN Ref
  rw [Bool.and_eq_true, decide_eq_true_eq, List.all_eq_true]
  constructor
  · rintro ⟨e, h⟩
    refine ⟨e, fun j hj => ?_⟩
    have e1 : (List.zipWith ref1 a b)[j]? = some (ref1 a[j] b[j]) := by
      rw [List.getElem?_zipWith, List.getElem?_eq_getElem (by omega), List.getElem?_eq_getElem hj]
    have e2 : tAt a j = a[j] := t_get (by rw [show ((j : Int)).toNat = j by omega]; exact List.getElem?_eq_getElem _)
    have e3 : tAt b j = b[j] := t_get (by rw [show ((j : Int)).toNat = j by omega]; exact List.getElem?_eq_getElem _)
    rw [e2, e3]
    exact h _ (List.mem_of_getElem? e1)
  · rintro ⟨e, h⟩
    refine ⟨e, fun x hx => ?_⟩
    obtain ⟨j, hj, rfl⟩ := List.getElem_of_mem hx
    rw [List.length_zipWith] at hj
    have h2 := h j (by omega)
    have e2 : tAt a j = a[j] := t_get (by rw [show ((j : Int)).toNat = j by omega]; exact List.getElem?_eq_getElem _)
    have e3 : tAt b j = b[j] := t_get (by rw [show ((j : Int)).toNat = j by omega]; exact List.getElem?_eq_getElem _)
    rw [e2, e3] at h2
    rw [List.getElem_zipWith]
    exact h2
theorem ref_tv {a b : Int} (h : ref1 a b = true) : ref1 (tv a) (tv b) = true := by
  unfold ref1 at *
  rw [tv_tv]
  rw [Bool.or_eq_true, decide_eq_true_eq, decide_eq_true_eq] at *
  rcases h with h | h
  · exact Or.inl h
  · exact Or.inr (by rw [h])
/-- Refinement by the values that numbers count as. -/
theorem ref_cases {a b : Int} (h : ref1 a b = true) : tv b = 2 ∨ tv a = tv b := by
  unfold ref1 at h
  rw [Bool.or_eq_true, decide_eq_true_eq, decide_eq_true_eq] at h
  rcases h with h | h
  · exact Or.inl h
  · exact Or.inr (by rw [h])
theorem ref_of {a b : Int} (h : tv b = 2 ∨ a = b) : ref1 a b = true := by
  unfold ref1
  rw [Bool.or_eq_true, decide_eq_true_eq, decide_eq_true_eq]
  exact h
theorem ref_and {a b c d : Int} (h : ref1 a c = true) (k : ref1 b d = true) : ref1 (tand a b) (tand c d) = true := by
  have h1 := ref_cases h
  have h2 := ref_cases k
  rw [← tand_tv a b, ← tand_tv c d]
  rcases tv_tri a with e | e | e <;> rcases tv_tri b with f | f | f <;> rcases tv_tri c with g | g | g <;> rcases tv_tri d with i | i | i <;> rw [e, g] at h1 <;> rw [f, i] at h2 <;> rw [e, f, g, i] <;> first | rfl | (exfalso; omega)
theorem ref_or {a b c d : Int} (h : ref1 a c = true) (k : ref1 b d = true) : ref1 (tor a b) (tor c d) = true := by
  have h1 := ref_cases h
  have h2 := ref_cases k
  rw [← tor_tv a b, ← tor_tv c d]
  rcases tv_tri a with e | e | e <;> rcases tv_tri b with f | f | f <;> rcases tv_tri c with g | g | g <;> rcases tv_tri d with i | i | i <;> rw [e, g] at h1 <;> rw [f, i] at h2 <;> rw [e, f, g, i] <;> first | rfl | (exfalso; omega)
theorem ref_not {a c : Int} (h : ref1 a c = true) : ref1 (tnot a) (tnot c) = true := by
  have h1 := ref_cases h
  rw [← tnot_tv a, ← tnot_tv c]
  rcases tv_tri a with e | e | e <;> rcases tv_tri c with g | g | g <;> rw [e, g] at h1 <;> rw [e, g] <;> first | rfl | (exfalso; omega)
theorem ref_step {k v v' x x' : Int} (h : ref1 v v' = true) (h2 : ref1 x x' = true) : ref1 (tstep k v x) (tstep k v' x') = true := by
  unfold tstep
  by_cases h4 : k = 4
  · rw [if_pos h4, if_pos h4]
    exact ref_and h h2
  rw [if_neg h4, if_neg h4]
  by_cases h5 : k = 5
  · rw [if_pos h5, if_pos h5]
    exact ref_or h h2
  rw [if_neg h5, if_neg h5]
  by_cases h6 : k = 6
  · rw [if_pos h6, if_pos h6]
    exact ref_not h2
  rw [if_neg h6, if_neg h6]
  exact h
theorem ref_fold {k : Int} {V V' : List Int} : ∀ (l : List Int) (v v' : Int), (∀ x ∈ l, ref1 (tAt V x) (tAt V' x) = true) → ref1 v v' = true → ref1 (tfold k V v l) (tfold k V' v' l) = true
  | [], _, _, _, h => h
  | x :: l, _, _, hl, h => ref_fold l _ _ (fun y hy => hl y (List.mem_cons_of_mem _ hy)) (ref_step h (hl x (List.mem_cons_self ..)))
theorem ref_init {bs is bs' is' : List Int} {g : Gt} (hb : Ref bs bs') (hi : Ref is is') (h0 : 0 ≤ g.2.1) : ref1 (tinit bs is g) (tinit bs' is' g) = true := by
  unfold tinit
  by_cases h2 : g.1 = 2
  · rw [if_pos h2, if_pos h2]
    exact ref_tv (hb.at _ h0)
  rw [if_neg h2, if_neg h2]
  by_cases h3 : g.1 = 3
  · rw [if_pos h3, if_pos h3]
    exact ref_tv (hi.at _ h0)
  rw [if_neg h3, if_neg h3]
  exact ref_refl _
theorem t_snoc (V : List Int) (x : Int) : tAt (V ++ [x]) V.length = x := t_get (by rw [show ((V.length : Int)).toNat = V.length by omega, List.getElem?_append_right (Nat.le_refl _), Nat.sub_self]; rfl)
theorem ref_to {n : Nt} {bs is bs' is' : List Int} (hn : NOk n) (hb : Ref bs bs') (hi : Ref is is') : ∀ k : Nat, k ≤ n.gates.length → Ref (tvalsTo bs is n.gates k) (tvalsTo bs' is' n.gates k)
  | 0, _ => ⟨rfl, fun j hj => by cases hj⟩
  | k + 1, h => by
    obtain ⟨g, hg⟩ : ∃ g, n.gates[k]? = some g := ⟨n.gates[k]'(by omega), by simp⟩
    have ih := ref_to hn hb hi k (by omega)
    have ok := hn.gate k g hg
    have l1 := tvals_len bs is n.gates (k := k) (by omega)
    have l2 := tvals_len bs' is' n.gates (k := k) (by omega)
    rw [tvals_next bs is n.gates hg, tvals_next bs' is' n.gates hg]
    refine ⟨by rw [List.length_append, List.length_append, l1, l2]; rfl, fun j hj => ?_⟩
    rw [List.length_append, l2, List.length_singleton] at hj
    by_cases hk : j < k
    · rw [t_app (by omega) (by rw [l1]; omega), t_app (by omega) (by rw [l2]; omega)]
      exact ih.2 j (by rw [l2]; exact hk)
    · obtain rfl : j = k := by omega
      have e1 := t_snoc (tvalsTo bs is n.gates j) (tgN bs is (tvalsTo bs is n.gates j) g)
      have e2 := t_snoc (tvalsTo bs' is' n.gates j) (tgN bs' is' (tvalsTo bs' is' n.gates j) g)
      rw [l1] at e1
      rw [l2] at e2
      rw [e1, e2]
      exact ref_fold _ _ _ (fun x hx => ih.at x (ok.rd x hx).1) (ref_init hb hi ok.x0)
theorem ref_n {n : Nt} {bs is bs' is' : List Int} (hn : NOk n) (hb : Ref bs bs') (hi : Ref is is') : refN (tvalsN bs is n) (tvalsN bs' is' n) = true := by
  rw [refn_iff, ← tvals_all, ← tvals_all]
  exact ref_to hn hb hi _ (Nat.le_refl _)
/-! ### Hiding -/
def hideTo (l : List Int) (b : Nat) (k : Nat) : List Int := (List.range l.length).map fun i => if i < k ∧ b.testBit i = true then 2 else tAt l i
def hideN (l : List Int) (b : Nat) : List Int := hideTo l b l.length
theorem hide_len (l : List Int) (b k : Nat) : (hideTo l b k).length = l.length := by unfold hideTo; simp
theorem hide_get {l : List Int} {b k j : Nat} (hj : j < l.length) : (hideTo l b k)[j]? = some (if j < k ∧ b.testBit j = true then 2 else tAt l j) := by
  unfold hideTo
  rw [List.getElem?_map, List.getElem?_range hj]
  rfl
theorem hide_zero (l : List Int) (b : Nat) : hideTo l b 0 = l := by
  refine List.ext_getElem? fun j => ?_
  by_cases hj : j < l.length
  · rw [hide_get hj, if_neg (by omega), List.getElem?_eq_getElem hj]
    congr 1
    exact t_get (by rw [show ((j : Int)).toNat = j by omega]; exact List.getElem?_eq_getElem _)
  · rw [List.getElem?_eq_none (by rw [hide_len]; omega), List.getElem?_eq_none (by omega)]
theorem hide_yes {l : List Int} {b k : Nat} (h : b.testBit k = true) (_ : k < l.length) : (hideTo l b k).set k 2 = hideTo l b (k + 1) := by
  refine List.ext_getElem? fun j => ?_
  rw [List.getElem?_set, hide_len]
  by_cases hj : j < l.length
  · rw [hide_get hj, hide_get hj]
    by_cases e : k = j
    · subst e
      rw [if_pos rfl, if_pos hj, if_pos ⟨by omega, h⟩]
    · rw [if_neg e]
      congr 1
      by_cases hb : b.testBit j = true
      · by_cases hk : j < k
        · rw [if_pos ⟨hk, hb⟩, if_pos ⟨by omega, hb⟩]
        · rw [if_neg (fun c => hk c.1), if_neg (fun c => by omega)]
      · rw [if_neg (fun c => hb c.2), if_neg (fun c => hb c.2)]
  · rw [if_neg (by omega), List.getElem?_eq_none (by rw [hide_len]; omega), List.getElem?_eq_none (by rw [hide_len]; omega)]
theorem hide_no {l : List Int} {b k : Nat} (h : b.testBit k = false) : hideTo l b k = hideTo l b (k + 1) := by
  unfold hideTo
  refine List.map_congr_left fun j _ => ?_
  by_cases hb : b.testBit j = true
  · by_cases e : j = k
    · subst e
      rw [h] at hb
      cases hb
    · by_cases hk : j < k
      · rw [if_pos ⟨hk, hb⟩, if_pos ⟨by omega, hb⟩]
      · rw [if_neg (fun c => hk c.1), if_neg (fun c => by omega)]
  · rw [if_neg (fun c => hb c.2), if_neg (fun c => hb c.2)]
theorem hide_at {l : List Int} {b j : Nat} (hj : j < l.length) : tAt (hideN l b) j = if b.testBit j = true then 2 else tAt l j := by
  refine t_get ?_
  rw [show ((j : Int)).toNat = j by omega]
  unfold hideN
  rw [hide_get hj]
  congr 1
  by_cases hb : b.testBit j = true
  · rw [if_pos ⟨hj, hb⟩, if_pos hb]
  · rw [if_neg (fun c => hb c.2), if_neg hb]
theorem ref_self (l : List Int) : Ref l l := ⟨rfl, fun _ _ => ref_refl _⟩
theorem ref_hide (l : List Int) (b : Nat) : Ref l (hideN l b) := by
  refine ⟨(hide_len l b _).symm, fun j hj => ?_⟩
  rw [show (hideN l b).length = l.length from hide_len l b _] at hj
  rw [hide_at hj]
  by_cases hb : b.testBit j = true
  · rw [if_pos hb]
    exact ref_of (Or.inl rfl)
  · rw [if_neg hb]
    exact ref_refl _
theorem ref_all {l : List Int} {a b : Nat} (h : ∀ j, j < l.length → b.testBit j = true) : Ref (hideN l a) (hideN l b) := by
  refine ⟨by rw [show (hideN l a).length = l.length from hide_len l a _, show (hideN l b).length = l.length from hide_len l b _], fun j hj => ?_⟩
  rw [show (hideN l b).length = l.length from hide_len l b _] at hj
  rw [hide_at (b := b) hj, if_pos (h j hj)]
  exact ref_of (Or.inl rfl)
end NetTp
end Go.Proofs.YtedilgnnfmplgaaDoor
