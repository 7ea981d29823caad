/- What bounds the text of a term that comes in: the bulk of what it reads as; and the two ways to say that a term is ground. No conditions. -/
import Derived.Test.YtgfdplmilichiaaDoorTermI
import Derived.Test.YtgfdplmilichiaaDoorTermTx
import Derived.Test.YtgfdplmilichiaaDoorTermH
namespace Go.Proofs.YtgfdplmilichiaaDoor
open Go Go.RowKit Go.ChangeShapes Go.Deep
namespace TermBk
open LexM TermM TermI Kit TermT TermTx TermE TermH
theorem tail_bulk {H : Type} : ∀ (l : List Tm) (es : List (DataW H)), l.length = es.length → (∀ (i : Nat) t d, l[i]? = some t → es[i]? = some d → (textT t).length + 1 ≤ Rows.uptoBulk d) → (tailT l).length ≤ Rows.uptoBulkAll es
  | [], [], _, _ => by simp [tailT]
  | [], _ :: _, h, _ => by simp at h
  | _ :: _, [], h, _ => by simp at h
  | t :: l, d :: es, h, hall => by
    have h0 := hall 0 t d rfl rfl
    have h1 := tail_bulk l es (by simpa using h) (fun i t d ht hd => hall (i + 1) t d (by simpa using ht) (by simpa using hd))
    simp only [tailT, Rows.uptoBulkAll, List.length_append, List.length_cons]
    omega
theorem text_bulk {H : Type} (s : ByteArray) (l : List Tm) (y : DataW H) (h : (tailT l).length ≤ Rows.uptoBulk y) : (textT (.mk s l)).length + 1 ≤ Rows.uptoBulk (DataW.agg [.lit (.string s.data.toList), y]) := by
  have h3 : s.data.toList.length = s.size := by simp
  cases l with
  | nil =>
    have e : (textT (.mk s [])).length = s.size := by rw [text_mk]; simp
    rw [e]
    simp only [Rows.uptoBulk, Rows.uptoBulkAll, h3]
    omega
  | cons a r =>
    rw [text_args (by simp)]
    simp only [Rows.uptoBulk, Rows.uptoBulkAll, h3]
    omega
theorem all_app {H : Type} (a b : List (DataW H)) : Rows.uptoBulkAll a ≤ Rows.uptoBulk (.slice a b) := by
  simp only [Rows.uptoBulk]
  omega
/-- A slice value that reads as a slice of terms, with its bulk. -/
theorem slice_in2 {H : Type} {enc : TypeId × Value → H} {W : World} {base : Nat} {sp : Nat → Bool} {held : Bool} : ∀ (n : Nat) (cs : List Value) (x : DataW H × List MemPlace),
    DataW.trod enc Tryd.prog W base sp held n 26 cs = some x → ∃ (l : List Tm) (v : Value), cs = [v] ∧ SlIn (· < W.heap.size) W l v ∧ (tailT l).length ≤ Rows.uptoBulk x.1 := by
  intro n
  induction n using Nat.strongRecOn with
  | ind n ih =>
    intro cs x h
    rcases DataW.trod_slice Tryd.underlying26 h with ⟨rfl, rfl⟩ | ⟨a, len, cap, elems, rest, m, hn, rfl, rfl, _, hle, hm, hlen, hel, _⟩
    · exact ⟨[], _, rfl, SlIn.none _ _, by simp [tailT]⟩
    · have each : ∀ i, i < len → ∃ tv : Tm × Value, W.cell? (a.add (i * 2)) = some (.string tv.1.nm) ∧ W.cell? (a.add (i * 2 + 1)) = some tv.2 ∧ tv.1.nm.size ≤ maxLen ∧ SlIn (· < W.heap.size) W tv.1.args tv.2 ∧ ∀ z, (elems.map (·.1))[i]? = some z → (textT tv.1).length + 1 ≤ Rows.uptoBulk z := by
        intro i hi
        have he := hel i hi
        rw [List.getElem?_eq_getElem (by omega)] at he
        obtain ⟨cs', h1, h2⟩ := Option.bind_eq_some_iff.1 he
        rw [cellsT] at h1
        obtain ⟨_, hl2, hcell⟩ := World.cells?_some h1
        obtain ⟨s, v, k, y, rfl, hk, hs, hv, hx1⟩ := struct_in h2
        obtain ⟨l, v', e, hin, hbk⟩ := ih k (by omega) _ _ hv
        injection e with e _
        subst e
        have e0 := hcell 0 (by omega)
        have e1 := hcell 1 (by omega)
        rw [add_add] at e0 e1
        refine ⟨(.mk s l, v), by simpa [Tm.nm] using e0, by simpa using e1, hs, hin, fun z hz => ?_⟩
        rw [List.getElem?_map, List.getElem?_eq_getElem (by omega)] at hz
        have hz' : (elems[i]'(by omega)).1 = z := by simpa using hz
        rw [← hz', hx1]
        exact text_bulk s l y.1 hbk
      obtain ⟨tvs, htl, hall⟩ := gather each
      obtain ⟨b, off, spot⟩ := a
      have hsp : tvs ≠ [] → spot = none ∧ b < W.heap.size := by
        intro hne
        obtain ⟨tv, hg⟩ : ∃ tv, tvs[0]? = some tv := by cases tvs with
          | nil => exact absurd rfl hne
          | cons a r => exact ⟨a, rfl⟩
        have h0 := (hall 0 tv hg).1
        have h2 : spot = none := by simpa [Addr.add] using World.cell?_spot h0
        subst h2
        exact ⟨rfl, by simpa [Addr.add] using block_lt_of_cell h0⟩
      have hml : (tvs.map (·.1)).length = len := by simp [htl]
      have key : ∀ (i : Nat) (t : Tm), (tvs.map (·.1))[i]? = some t → ∃ tv : Tm × Value, tvs[i]? = some tv ∧ tv.1 = t := by
        intro i t ht
        rw [List.getElem?_map] at ht
        obtain ⟨tv, h1, h2⟩ := Option.map_eq_some_iff.1 ht
        exact ⟨tv, h1, h2⟩
      refine ⟨tvs.map (·.1), .slice (some ⟨b, off, spot⟩) len cap, rfl, ?_, ?_⟩
      · rw [← hml]
        refine .mk _ cap _ (fun i => (tvs.getD i (default, undef)).2) b off (fun hne => ?_) (fun h => by cases h) (by omega) hm (fun i t ht => ?_) (fun i t ht => ?_)
        · obtain ⟨rfl, h2⟩ := hsp (by intro e; subst e; exact hne rfl)
          exact ⟨rfl, h2⟩
        · obtain ⟨tv, hg, rfl⟩ := key i t ht
          obtain ⟨h1, h2, h3, _⟩ := hall i tv hg
          obtain ⟨rfl, _⟩ := hsp (by intro e; subst e; simp at hg)
          rw [addr_add] at h1 h2
          exact ⟨h1, by simpa [List.getD, hg, Nat.add_assoc] using h2, h3⟩
        · obtain ⟨tv, hg, rfl⟩ := key i t ht
          have := (hall i tv hg).2.2.2.1
          simpa [List.getD, hg] using this
      · refine Nat.le_trans (tail_bulk (tvs.map (·.1)) (elems.map (·.1)) (by simp [htl, hlen]) (fun i t d ht hd => ?_)) (all_app _ _)
        obtain ⟨tv, hg, rfl⟩ := key i t ht
        exact (hall i tv hg).2.2.2.2 d hd
theorem open_term2 {H : Type} {enc : TypeId × Value → H} {W : World} {b0 : Nat} {base : Nat} {sp : Nat → Bool} {held : Bool} {v : Value} {d : DataW H} {p : List MemPlace}
    (hv : Value.okWide Tryd.prog W .any b0 28 v) (h : DataW.Trod enc Tryd.prog W base sp held 28 v d p) : ∃ (t : Tm) (sv : Value), v = .agg #[.string t.nm, sv] ∧ t.nm.size ≤ maxLen ∧ SlIn (· < W.heap.size) W t.args sv ∧ (textT t).length + 1 ≤ Rows.uptoBulk d := by
  obtain ⟨cs, rfl, hsz⟩ := WideShapes.okWide_struct under.choose_spec.choose_spec.1 hv
  obtain ⟨fuel, hf⟩ := h
  obtain ⟨s, v, k, y, e, _, hs, hv, hx⟩ := struct_in hf
  obtain ⟨l, v', e', hin, hbk⟩ := slice_in2 _ _ _ hv
  injection e' with e' _
  subst e'
  simp [Value.cells] at e
  obtain rfl : cs = #[.string s, v] := Array.ext' e
  refine ⟨.mk s l, v, rfl, hs, hin, ?_⟩
  rw [show d = _ from hx]
  exact text_bulk s l y.1 hbk
/-! ### Ground -/
theorem con_var {n : ByteArray} (h : conB n = true) : varB n = false := by
  unfold conB numB nameB at h
  unfold varB
  generalize n.data.toList = l at *
  cases hv : varL l with
  | false => rfl
  | true =>
    exfalso
    cases l with
    | nil => simp [varL, headB] at hv
    | cons b r =>
      simp only [varL, headB, upB, Bool.and_eq_true, decide_eq_true_eq] at hv
      simp only [nameL, isNum, headB, loB, allB, dgB, List.all_cons, Bool.or_eq_true, Bool.and_eq_true, decide_eq_true_eq] at h
      rcases h with h | h
      · omega
      · omega
theorem vars_nil : ∀ (xs M : List ByteArray), (xs.foldl addV M).length = 0 ↔ M.length = 0 ∧ ∀ x ∈ xs, varB x = false
  | [], M => by simp
  | a :: r, M => by
    rw [List.foldl_cons, vars_nil r (addV M a)]
    unfold addV
    cases hv : varB a with
    | false => simp [hv]
    | true =>
      cases hh : hasB M a with
      | false => simp [hv]
      | true =>
        have : M ≠ [] := by intro e; subst e; simp [hasB] at hh
        simp [hv]
        intro e
        exact absurd e this
theorem ground_leaf (d : Nat) : ∀ t : Tm, validT true d t = true ↔ validT false d t = true ∧ ∀ x ∈ leavesT t, varB x = false := by
  induction d with
  | zero => intro t; cases t; simp [validT]
  | succ d ih =>
    rintro ⟨n, l⟩
    cases l with
    | nil =>
      simp only [validT, List.isEmpty_nil, if_true, leavesT, Bool.not_true, Bool.false_and, Bool.or_false, Bool.not_false, Bool.true_and, Bool.or_eq_true, List.mem_singleton, forall_eq]
      constructor
      · intro h; exact ⟨Or.inl h, con_var h⟩
      · rintro ⟨h | h, h2⟩
        · exact h
        · rw [h] at h2; cases h2
    | cons a r =>
      simp only [validT, List.isEmpty_cons, Bool.false_eq_true, if_false, leavesT, Bool.and_eq_true, List.all_eq_true]
      have hL : ∀ l : List Tm, (∀ x ∈ leavesL l, varB x = false) ↔ ∀ t ∈ l, ∀ x ∈ leavesT t, varB x = false := by
        intro l
        induction l with
        | nil => simp [leavesL]
        | cons b s ihl =>
          simp only [leavesL, List.mem_append, List.mem_cons, forall_eq_or_imp]
          constructor
          · intro h; exact ⟨fun x hx => h x (Or.inl hx), ihl.1 (fun x hx => h x (Or.inr hx))⟩
          · rintro ⟨h1, h2⟩ x (hx | hx)
            · exact h1 x hx
            · exact ihl.2 h2 x hx
      rw [hL]
      constructor
      · rintro ⟨h1, h2⟩
        exact ⟨⟨h1, fun t ht => ((ih t).1 (h2 t ht)).1⟩, fun t ht => ((ih t).1 (h2 t ht)).2⟩
      · rintro ⟨⟨h1, h2⟩, h3⟩
        exact ⟨h1, fun t ht => (ih t).2 ⟨h2 t ht, h3 t ht⟩⟩
theorem ground_eq (t : Tm) : groundB t = validT true 4 t := by
  rw [Bool.eq_iff_iff, ground_leaf 4 t]
  unfold groundB
  rw [Bool.and_eq_true, decide_eq_true_eq]
  have h := vars_nil (leavesL [t]) []
  have e : leavesL [t] = leavesT t := by simp [leavesL]
  unfold varsOf
  rw [h, e]
  simp
end TermBk
end Go.Proofs.YtgfdplmilichiaaDoor
