/- Texts laid together: TermH; UniP; UniR; TermEq; UniS. Their own heads stand before each. -/
import Derived.Test.YtaenalpckloikaaGreatDoorGA10
import Derived.Test.YtaenalpckloikaaGreatDoorGA9
import Derived.OwnWalk
import Derived.Laws.OwnMore
import Derived.Deep.DeepCutAuto
import Derived.Deep.RegionWith
import Derived.Test.YtaenalpckloikaaGreatDoorGA8
import Derived.Deep.AppendLies
import Derived.BigQuiet
import Derived.Test.YtaenalpckloikaaGreatDoorGA3
/- Ground of the code; lists of terms laid by the call; ascending lists with the same members are one. Condition: at most a million parts. -/
namespace Go.Proofs.YtaenalpckloikaaGreatDoor
open Go Go.RowKit
namespace TermH
open LexM TermM TermI Kit TermN TermU TermL TermE TermF TermV TermT
theorem slin_of {B B' : Nat} {w : World} {g cap : Nat} {L : List (Tm × Value)} (hg : g < B') (hB : B ≤ B') (hc : L.length ≤ cap) (hm : cap ≤ maxLen) (hcell : Has w g (flatL L).toArray) (hall : ∀ x ∈ L, SlIn (· < B) w x.1.args x.2 ∧ x.1.nm.size ≤ maxLen) :
    SlIn (· < B') w (L.map (·.1)) (.slice (some ⟨g, 0, none⟩) L.length cap) := by
  have hl : (L.map (·.1)).length = L.length := by simp
  rw [← hl]
  have key : ∀ (i : Nat) (t : Tm), (L.map (·.1))[i]? = some t → ∃ x : Tm × Value, L[i]? = some x ∧ x.1 = t := by
    intro i t ht
    rw [List.getElem?_map] at ht
    obtain ⟨x, a, b⟩ := Option.map_eq_some_iff.1 ht
    exact ⟨x, a, b⟩
  refine .mk _ cap _ (fun i => (L.getD i (default, undef)).2) g 0 (fun _ => ⟨rfl, hg⟩) (fun h => by cases h) (by rw [hl]; exact hc) hm (fun i t ht => ?_) (fun i t ht => ?_)
  · obtain ⟨x, hx, rfl⟩ := key i t ht
    obtain ⟨f1, f2⟩ := flatL_get L i x hx
    rw [Nat.zero_add, hcell.cell, hcell.cell]
    refine ⟨by simpa using f1, ?_, (hall x (List.mem_of_getElem? hx)).2⟩
    simp only [List.getElem?_toArray]
    rw [f2]
    simp [List.getD, hx]
  · obtain ⟨x, hx, rfl⟩ := key i t ht
    have := (hall x (List.mem_of_getElem? hx)).1.weaken (ok' := (· < B')) (fun b hb => Nat.lt_of_lt_of_le hb hB)
    simpa [List.getD, hx] using this
/-- Valid, and no variable occurs. -/
def groundB (t : Tm) : Bool := validT false 4 t && decide ((varsOf (leavesL [t])).length = 0)
set_option maxHeartbeats 1600000 in
theorem ground_any (t : Tm) (B : Nat) (w : World) (sv : Value) (hB : B ≤ w.heap.size) (hs : t.nm.size ≤ maxLen) (h : SlIn (· < B) w t.args sv) (hz : sizeT t ≤ 1000000) :
    Calls Tryz.prog 51 #[.agg #[.string t.nm, sv]] w fun e w' => e = .returned (.bool (groundB t)) ∧ Below w.heap.size w w' := by
  obtain ⟨p, c, rfl⟩ := h.form
  have HC := Lib.hid (valid_any t B (w.alloc (.cells #[.string t.nm, .slice p t.args.length c] 27)) _ (Nat.le_trans hB (Gr.alloc _ _).size) hs (h.gr (Gr.alloc _ _) hB))
  have HV := Lib.hid (fun w1 (g : Below w.heap.size w w1) => vars_any [t] (w1.heap.size + 1) (w1.alloc (.cells #[.string t.nm, .slice p t.args.length c] 27)) (.slice (some ⟨w1.heap.size, 0, none⟩) 1 1) (by simp)
    (slin_of (B := B) (L := [(t, .slice p t.args.length c)]) (by omega) (by have := g.size; omega) (Nat.le_refl _) (by unfold maxLen; simp) (Has.new w1 _ _) (fun x hx => by
      obtain rfl := List.mem_singleton.1 hx
      exact ⟨h.deep (g.trans (below_alloc w1 _ |>.mono g.size)) hB, hs⟩)) (by simp only [sizeL]; omega))
  have HG : Hid (groundB t = (validT false 4 t && decide ((varsOf (leavesL [t])).length = 0))) := rfl
  generalize groundB t = R at *
  generalize validT false 4 t = V at *
  generalize varsOf (leavesL [t]) = ys at *
  clear h
  cases V
  · go_enter Tryz.func51, Tryz.ntmps51
    go_wp2_with fail
    refine HC.out.mono ?_
    rintro e w2 ⟨rfl, g2⟩
    have D2 := Lib.hid ((Gr.alloc _ _).trans g2).1
    clear g2
    go_wp2_with fail
    go_ret
    exact ⟨ret_bool (by rw [HG.out]; rfl), D2.out⟩
  · go_enter Tryz.func51, Tryz.ntmps51
    go_wp2_with fail
    refine HC.out.mono ?_
    rintro e w2 ⟨rfl, g2⟩
    have D2 := Lib.hid ((Gr.alloc _ _).trans g2).1
    obtain ⟨x1, x2, x3, x4, x5⟩ := (g2.has (Has.new w _ _)).two
    clear g2
    go_wp2_with fail
    refine (HV.out _ D2.out).mono ?_
    rintro e w3 ⟨v3, base, rfl, ho, hb, hd⟩
    have D3 := Lib.hid ((D2.out.trans ((below_alloc w2 _).mono D2.out.size)).trans (hd.mono (by have := D2.out.size; simp; omega)))
    obtain ⟨a3, c3, rfl⟩ := row_form ho
    clear ho hb hd
    go_wp2_with fail
    go_ret
    exact ⟨ret_bool (by rw [HG.out]; rw [Bool.eq_iff_iff]; simp), D3.out⟩
theorem con_var {n : ByteArray} (h : conB n = true) : varB n = false := by
  unfold conB numB nameB at h
  unfold varB
  generalize n.data.toList = l at *
  cases hv : varL l with
  | false => rfl
  | true =>
    exfalso
    cases l with
    | nil => simp [varL, headB] at hv
    | cons b r =>
      simp only [varL, headB, upB, Bool.and_eq_true, decide_eq_true_eq] at hv
      simp only [nameL, isNum, headB, loB, allB, dgB, List.all_cons, Bool.or_eq_true, Bool.and_eq_true, decide_eq_true_eq] at h
      rcases h with h | h
      · omega
      · omega
theorem vars_nil : ∀ (xs M : List ByteArray), (xs.foldl addV M).length = 0 ↔ M.length = 0 ∧ ∀ x ∈ xs, varB x = false
  | [], M => by simp
  | a :: r, M => by
    rw [List.foldl_cons, vars_nil r (addV M a)]
    unfold addV
    cases hv : varB a with
    | false => simp [hv]
    | true =>
      cases hh : hasB M a with
      | false => simp [hv]
      | true =>
        have : M ≠ [] := by intro e; subst e; simp [hasB] at hh
        simp [hv]
        intro e
        exact absurd e this
theorem ground_leaf (d : Nat) : ∀ t : Tm, validT true d t = true ↔ validT false d t = true ∧ ∀ x ∈ leavesT t, varB x = false := by
  induction d with
  | zero => intro t; cases t; simp [validT]
  | succ d ih =>
    rintro ⟨n, l⟩
    cases l with
    | nil =>
      simp only [validT, List.isEmpty_nil, if_true, leavesT, Bool.not_true, Bool.false_and, Bool.or_false, Bool.not_false, Bool.true_and, Bool.or_eq_true, List.mem_singleton, forall_eq]
      constructor
      · intro h; exact ⟨Or.inl h, con_var h⟩
      · rintro ⟨h | h, h2⟩
        · exact h
        · rw [h] at h2; cases h2
    | cons a r =>
      simp only [validT, List.isEmpty_cons, Bool.false_eq_true, if_false, leavesT, Bool.and_eq_true, List.all_eq_true]
      have hL : ∀ l : List Tm, (∀ x ∈ leavesL l, varB x = false) ↔ ∀ t ∈ l, ∀ x ∈ leavesT t, varB x = false := by
        intro l
        induction l with
        | nil => simp [leavesL]
        | cons b s ihl =>
          simp only [leavesL, List.mem_append, List.mem_cons, forall_eq_or_imp]
          constructor
          · intro h; exact ⟨fun x hx => h x (Or.inl hx), ihl.1 (fun x hx => h x (Or.inr hx))⟩
          · rintro ⟨h1, h2⟩ x (hx | hx)
            · exact h1 x hx
            · exact ihl.2 h2 x hx
      rw [hL]
      constructor
      · rintro ⟨h1, h2⟩
        exact ⟨⟨h1, fun t ht => ((ih t).1 (h2 t ht)).1⟩, fun t ht => ((ih t).1 (h2 t ht)).2⟩
      · rintro ⟨⟨h1, h2⟩, h3⟩
        exact ⟨h1, fun t ht => (ih t).2 ⟨h2 t ht, h3 t ht⟩⟩
theorem ground_eq (t : Tm) : groundB t = validT true 4 t := by
  rw [Bool.eq_iff_iff, ground_leaf 4 t]
  unfold groundB
  rw [Bool.and_eq_true, decide_eq_true_eq]
  have h := vars_nil (leavesL [t]) []
  have e : leavesL [t] = leavesT t := by simp [leavesL]
  unfold varsOf
  rw [h, e]
  simp
end TermH
end Go.Proofs.YtaenalpckloikaaGreatDoor
/- The code's Match. Conditions: the substitution's terms and the ground term have at most a million parts. -/
namespace Go.Proofs.YtaenalpckloikaaGreatDoor
open Go Go.RowKit
namespace UniP
open LexM TermM TermI Kit TermN TermU UniK UniM UniA UniC UniD UniE UniG UniJ UniO UniL
theorem asc_srt : ∀ s : List Bd, ascB s = true → Srt s
  | [], _ => fun i j a b _ ha _ => by simp at ha
  | [x], _ => srt_cons (fun i j a b _ ha _ => by simp at ha) (fun y hy => by simp at hy)
  | a :: b :: r, h => by
    unfold ascB at h
    rw [Bool.and_eq_true] at h
    have ih := asc_srt (b :: r) h.2
    have hab := lt_lex.1 h.1
    refine srt_cons ih fun y hy => ?_
    rcases List.mem_cons.1 hy with rfl | hy
    · exact hab
    · have := srt_head ih hy
      exact (tri_lex a.1.data.toList b.1.data.toList y.1.data.toList).2.1 hab (by omega)
theorem vld_srt {s : List Bd} (h : vldS s = true) : Srt s ∧ s.length ≤ 64 := by
  unfold vldS at h
  rw [Bool.and_eq_true, Bool.and_eq_true, decide_eq_true_eq] at h
  exact ⟨asc_srt s h.2.2, h.1⟩
/-- What holds of all that is bound. -/
theorem ext_all {P : Bd → Prop} {Q : Tm → Prop} (hQ : ∀ n l, Q (.mk n l) → ∀ x ∈ l, Q x) (hP : ∀ v t, varB v = true → Q t → P (v, t)) (lim : Bool) (p : Tm) : ∀ (t : Tm) (s s' : List Bd), extP lim p t s = some s' → (∀ y ∈ s, P y) → Q t → ∀ y ∈ s', P y := by
  induction p using Tm.ind with
  | h n l ih =>
    rintro ⟨m, r⟩ s s' h hs ht
    unfold extP at h
    split at h
    · rename_i hv
      have hv2 : varB n = true := by
        unfold isV at hv
        rw [Bool.and_eq_true] at hv
        exact hv.2
      unfold bindP at h
      split at h
      · split at h
        · cases h; exact hs
        · cases h
      · split at h
        · cases h
        · cases h
          intro y hy
          rcases put_mem.1 hy with rfl | hy
          · exact hP _ _ hv2 ht
          · exact hs y hy
    · split at h
      · have key : ∀ (l : List Tm), (∀ x ∈ l, ∀ (t : Tm) (s s' : List Bd), extP lim x t s = some s' → (∀ y ∈ s, P y) → Q t → ∀ y ∈ s', P y) → ∀ (r : List Tm) (s s' : List Bd), extL lim l r s = some s' → (∀ y ∈ s, P y) → (∀ x ∈ r, Q x) → ∀ y ∈ s', P y := by
          intro l
          induction l with
          | nil =>
            intro _ r s s' h hs _
            unfold extL at h
            cases h
            exact hs
          | cons a l ihl =>
            intro hx r s s' h hs hr
            cases r with
            | nil => unfold extL at h; cases h
            | cons t r =>
              unfold extL at h
              split at h
              · rename_i s1 h1
                exact ihl (fun x hx' => hx x (by simp [hx'])) r s1 s' h (hx a (by simp) t s s1 h1 hs (hr t (by simp))) (fun x hx => hr x (by simp [hx]))
              · cases h
        exact key l ih r s s' h hs (hQ m r ht)
      · cases h
/-- So many zero bindings. -/
def restB : Nat → List Value
  | 0 => []
  | j + 1 => .string ⟨#[]⟩ :: .string ⟨#[]⟩ :: .slice none 0 0 :: restB j
theorem restb_len : ∀ j, (restB j).length = j * 3
  | 0 => rfl
  | j + 1 => by simp [restB, restb_len j]; omega
theorem restb_get : ∀ (j i : Nat), i < j * 3 → (restB j)[i]? = some (if i % 3 = 2 then Value.slice none 0 0 else .string ⟨#[]⟩)
  | 0, i, h => by omega
  | j + 1, 0, _ => rfl
  | j + 1, 1, _ => rfl
  | j + 1, 2, _ => rfl
  | j + 1, i + 3, h => by
    rw [restB, List.getElem?_cons_succ, List.getElem?_cons_succ, List.getElem?_cons_succ, restb_get j i (by omega), show (i + 3) % 3 = i % 3 by omega]
theorem madeb_rest (n : Nat) : (madeCells zB.cells (n * 3)).toList = KB.flat [] ++ restB n := by
  rw [show (KB.flat [] : List Value) = [] from rfl, List.nil_append]
  apply List.ext_getElem?
  intro i
  have hs : zB.cells = #[.string ⟨#[]⟩, .string ⟨#[]⟩, .slice none 0 0] := rfl
  rw [hs]
  by_cases hi : i < n * 3
  · rw [restb_get n i hi]
    unfold madeCells
    rw [Array.getElem?_toList, Array.getElem?_map, Array.getElem?_range]
    rw [if_pos hi]
    have h3 : i % 3 = 0 ∨ i % 3 = 1 ∨ i % 3 = 2 := by omega
    rcases h3 with h | h | h <;> simp [h]
  · have h1 : (restB n)[i]? = none := List.getElem?_eq_none (by rw [restb_len]; omega)
    rw [h1]
    exact List.getElem?_eq_none (by rw [Array.length_toList, size_madeCells]; omega)
theorem restb_at (L : List (Bd × Value)) (j : Nat) (hj : 0 < j) : (KB.flat L ++ restB j)[L.length * 3]? = some (.string ⟨#[]⟩) ∧ (KB.flat L ++ restB j)[L.length * 3 + 1]? = some (.string ⟨#[]⟩) ∧ (KB.flat L ++ restB j)[L.length * 3 + 1 + 1]? = some (.slice none 0 0) := by
  obtain ⟨i, rfl⟩ : ∃ i, j = i + 1 := ⟨j - 1, by omega⟩
  have hl := flat_len (K := KB) L
  refine ⟨?_, ?_, ?_⟩
  · rw [List.getElem?_append_right (by omega), show L.length * 3 - (KB.flat L).length = 0 by omega]; rfl
  · rw [List.getElem?_append_right (by omega), show L.length * 3 + 1 - (KB.flat L).length = 1 by omega]; rfl
  · rw [List.getElem?_append_right (by omega), show L.length * 3 + 1 + 1 - (KB.flat L).length = 2 by omega]; rfl
theorem restb_set (L : List (Bd × Value)) (x : Bd) (v : Value) (j : Nat) (hj : 0 < j) : (((KB.flat L ++ restB j).set (L.length * 3) (.string x.1)).set (L.length * 3 + 1) (.string x.2.nm)).set (L.length * 3 + 1 + 1) v = KB.flat (L ++ [(x, v)]) ++ restB (j - 1) := by
  obtain ⟨i, rfl⟩ : ∃ i, j = i + 1 := ⟨j - 1, by omega⟩
  have hl := flat_len (K := KB) L
  rw [flat_app, flat_one, List.set_append_right _ _ (by omega), List.set_append_right _ _ (by omega), List.set_append_right _ _ (by omega), show L.length * 3 - (KB.flat L).length = 0 by omega, show L.length * 3 + 1 - (KB.flat L).length = 1 by omega, show L.length * 3 + 1 + 1 - (KB.flat L).length = 2 by omega, Nat.add_sub_cancel]
  simp [restB, KB]
theorem sin_own {w : World} {base g n : Nat} {L : List (Bd × Value)} (hl : L.length = n) (h : w.ownsRow base 52 3 (.slice (some ⟨g, 0, none⟩) n n) n (KB.flat L)) (hI : ∀ x ∈ L, KB.inn (fun b => g < b ∧ b < w.heap.size) w x) (hg : g < w.heap.size) :
    SIn (fun b => g ≤ b ∧ b < w.heap.size) w (L.map (·.1)) (.slice (some ⟨g, 0, none⟩) n n) := by
  have hm : n ≤ maxLen := by
    rcases h.2 with ⟨e, _⟩ | ⟨g', cap, cur, e, _, _, hc, hcm, _⟩
    · cases e
    · injection e with _ _ e; omega
  subst hl
  refine ⟨L, rfl, _, _, rfl, Nat.le_refl _, hm, fun x hx => KB.wide (hI x hx) fun b hb => ⟨by omega, hb.2⟩, fun _ => ⟨g, 0, rfl, ⟨Nat.le_refl _, hg⟩, fun i x hx j u hu => ?_⟩⟩
  have hi := (List.getElem?_eq_some_iff.1 hx).1
  have hj := (List.getElem?_eq_some_iff.1 hu).1
  rw [KB.len] at hj
  rw [show 0 + i * 3 + j = i * 3 + j by omega]
  exact (h.cellAt _ (by omega)).trans (flat_get L i x hx j u hu)
end UniP
end Go.Proofs.YtaenalpckloikaaGreatDoor
/- The reference's put. Condition: at most a million bindings. -/
namespace Go.Proofs.YtaenalpckloikaaGreatDoor
open Go Go.RowKit
namespace UniR
open LexM TermM TermI Kit TermN TermU UniK UniM UniA UniC UniD UniE UniG UniJ UniO
theorem one_B (a b : ByteArray) (p : Option Addr) (n c : Nat) : ∀ u ∈ [Value.string a, .string b, .slice p n c], u.oneCell' = true := by
  intro u hu
  simp at hu
  rcases hu with rfl | rfl | rfl <;> rfl
theorem bd1 {n : Nat} (h : n ≤ 1000001) : n + 1 + 1 ≤ maxLen := by unfold maxLen; omega
theorem bd2 {n : Nat} (h : n ≤ 1000001) : (n + 1 + 1) * 56 ≤ 140737488355328 := by omega
theorem bd3 {n : Nat} (h : n ≤ 1000001) : n + 1 ≤ maxLen := by unfold maxLen; omega
theorem bd4 {n : Nat} (h : n ≤ 1000001) : (n + 1) * 56 ≤ 140737488355328 := by omega
/-- A row of the call's own, of bindings whose terms lie in older blocks. -/
def OwnQ (base : Nat) (w : World) (L : List (Bd × Value)) (v : Value) : Prop := w.ownsRow base 52 3 v L.length (KB.flat L) ∧ ∀ x ∈ L, KB.inn (· < base) w x
theorem OwnQ.nil (base : Nat) (w : World) : OwnQ base w [] (.slice none 0 0) := ⟨⟨rfl, Or.inl ⟨rfl, rfl⟩⟩, fun x h => by simp at h⟩
theorem OwnQ.drewN {base : Nat} {w : World} {L : List (Bd × Value)} {v : Value} (h : OwnQ base w L v) (n : Nat) : OwnQ base (w.drewN n) L v := ⟨⟨h.1.1, h.1.2⟩, fun x hx => KB.keep (h.2 x hx) fun _ _ _ => rfl⟩
theorem OwnQ.form {base : Nat} {w : World} {L : List (Bd × Value)} {v : Value} (h : OwnQ base w L v) : ∃ a c, v = .slice a L.length c := by
  rcases h.1.2 with ⟨e, hz⟩ | ⟨g, cap, cur, e, _⟩
  · exact ⟨none, 0, by rw [e, hz]⟩
  · exact ⟨_, cap, e⟩
theorem OwnQ.add {base g cap : Nat} {w2 w3 : World} {o : Obj} {L : List (Bd × Value)} {v : Value} {x : Bd × Value} (h : OwnQ base w2 L v) (hb : base ≤ w2.heap.size) (hx : KB.inn (· < base) w2 x)
    (hown : w3.ownsRow base 52 3 (.slice (some ⟨g, 0, none⟩) (L.length + 1) cap) (L.length + 1) (KB.flat L ++ KB.cells x)) (hgrow : (w2.alloc o).grownBy w3 v.ownBlock) :
    OwnQ base w3 (L ++ [x]) (.slice (some ⟨g, 0, none⟩) (L.length + 1) cap) ∧ Below base w2 w3 := by
  have hl := h.1.lt
  have hB : Below base w2 w3 := ((Below.refl base w2).alloc hb o).grown hgrow (by simp; omega) (fun k hk => (hl k hk).1)
  refine ⟨⟨by rw [List.length_append, flat_app, flat_one]; exact hown, fun y hy => ?_⟩, hB⟩
  have k : ∀ y, KB.inn (· < base) w2 y → KB.inn (· < base) w3 y := fun y h => KB.keep h fun b o hlt => hB.cell (p := ⟨b, o, none⟩) hlt
  rcases List.mem_append.1 hy with hy | hy
  · exact k y (h.2 y hy)
  · obtain rfl := List.mem_singleton.1 hy
    exact k _ hx
theorem OwnQ.sin {base : Nat} {w : World} {L : List (Bd × Value)} {v : Value} (h : OwnQ base w L v) (hb : base ≤ w.heap.size) : SIn (· < w.heap.size) w (L.map (·.1)) v := by
  have hl := h.1.lt
  refine ⟨L, rfl, ?_⟩
  rcases h.1.2 with ⟨e, hz⟩ | ⟨g, cap, cur, e, e2, e3, e4, e5, _⟩
  · exact ⟨none, 0, by rw [e, hz], by omega, Nat.zero_le _, fun x hx => KB.wide (h.2 x hx) fun b hlt => by omega, fun h => by omega⟩
  · subst e
    refine ⟨_, cap, rfl, e4, e5, fun x hx => KB.wide (h.2 x hx) fun b hlt => by omega, fun _ => ⟨g, 0, rfl, (hl g rfl).2, fun i x hx j u hu => ?_⟩⟩
    have hi := (List.getElem?_eq_some_iff.1 hx).1
    have hj := (List.getElem?_eq_some_iff.1 hu).1
    rw [KB.len] at hj
    rw [show 0 + i * 3 + j = i * 3 + j by omega]
    exact (h.1.cellAt _ (by omega)).trans (flat_get L i x hx j u hu)
theorem put_none {b : Bd} : ∀ {s : List Bd}, (∀ x ∈ s, ltB b.1 x.1 = false) → putS b s = s ++ [b]
  | [], _ => rfl
  | x :: r, h => by
    unfold putS
    rw [h x (by simp)]
    simp [put_none (s := r) (fun y hy => h y (by simp [hy]))]
theorem put_app {b : Bd} {r : List Bd} : ∀ {s : List Bd}, (∃ x ∈ s, ltB b.1 x.1 = true) → putS b (s ++ r) = putS b s ++ r
  | [], h => by simp at h
  | x :: s, h => by
    unfold putS
    simp only [List.cons_append]
    cases hx : ltB b.1 x.1 with
    | true => simp
    | false =>
      have : ∃ y ∈ s, ltB b.1 y.1 = true := by
        obtain ⟨y, hy, h⟩ := h
        rcases List.mem_cons.1 hy with rfl | hy
        · rw [hx] at h; cases h
        · exact ⟨y, hy, h⟩
      simp [put_app (r := r) this]
theorem put_hit {b x : Bd} : ∀ {s : List Bd}, (∀ y ∈ s, ltB b.1 y.1 = false) → ltB b.1 x.1 = true → putS b (s ++ [x]) = s ++ [b, x]
  | [], _, h => by simp [putS, h]
  | y :: s, h0, h => by
    unfold putS
    simp only [List.cons_append]
    rw [h0 y (by simp)]
    simp [put_hit (s := s) (fun y hy => h0 y (by simp [hy])) h]
/-- What lies there after some rounds. -/
def PutSt (b : Bd) (s : List Bd) (k : Nat) (dn : Bool) (out : List Bd) : Prop :=
  (dn = true ∧ out = putS b (s.take k) ∧ ∃ x ∈ s.take k, ltB b.1 x.1 = true) ∨ (dn = false ∧ out = s.take k ∧ ∀ x ∈ s.take k, ltB b.1 x.1 = false)
theorem st_true {b x : Bd} {s out : List Bd} {k : Nat} (h : PutSt b s k true out) (hx : s[k]? = some x) : PutSt b s (k + 1) true (out ++ [x]) := by
  rcases h with ⟨_, rfl, y, hy, h⟩ | ⟨h, _⟩
  · left
    rw [take_get s k x hx]
    exact ⟨rfl, (put_app ⟨y, hy, h⟩).symm, y, by simp [hy], h⟩
  · cases h
theorem st_false {b x : Bd} {s out : List Bd} {k : Nat} (h : PutSt b s k false out) (hx : s[k]? = some x) (hz : ltB b.1 x.1 = false) : PutSt b s (k + 1) false (out ++ [x]) := by
  rcases h with ⟨h, _⟩ | ⟨_, rfl, h⟩
  · cases h
  · right
    rw [take_get s k x hx]
    refine ⟨rfl, rfl, fun y hy => ?_⟩
    rcases List.mem_append.1 hy with hy | hy
    · exact h y hy
    · obtain rfl := List.mem_singleton.1 hy
      exact hz
theorem st_hit {b x : Bd} {s out : List Bd} {k : Nat} (h : PutSt b s k false out) (hx : s[k]? = some x) (hz : ltB b.1 x.1 = true) : PutSt b s (k + 1) true (out ++ [b] ++ [x]) := by
  rcases h with ⟨h, _⟩ | ⟨_, rfl, h⟩
  · cases h
  · left
    rw [take_get s k x hx]
    exact ⟨rfl, by rw [put_hit h hz]; simp, x, by simp, hz⟩
set_option maxRecDepth 100000 in
set_option maxHeartbeats 1600000 in
theorem put_any (s : List Bd) (b : Bd) (hn : s.length ≤ 1000000) (B : Nat) (w : World) (sv bv : Value) (hB : B ≤ w.heap.size) (hs : SIn (· < B) w s sv) (hb : KB.inn (· < B) w (b, bv)) :
    Calls Tryz.prog 61 #[sv, .agg #[.string b.1, .string b.2.nm, bv]] w (InsR (putS b s) w) := by
  obtain ⟨i0, hi, hz0, hz1, hz2⟩ := info_parts infoB
  obtain ⟨pb, cb, rfl⟩ : ∃ pb cb, bv = .slice pb b.2.args.length cb := hb.1.form
  obtain ⟨p, c, rfl, hc, hm, hR⟩ := SIn.row hs
  obtain ⟨W1, hW1⟩ : ∃ W1, W1 = w.alloc (.cells #[.string b.1, .string b.2.nm, .slice pb b.2.args.length cb] 52) := ⟨_, rfl⟩
  have B1 : Hid (Below w.heap.size w W1) := Lib.hid (by rw [hW1]; exact below_alloc _ _)
  have T1 : Hid (Has W1 w.heap.size #[.string b.1, .string b.2.nm, .slice pb b.2.args.length cb]) := Lib.hid (by rw [hW1]; exact Has.new _ _ _)
  have hz1w : W1.heap.size = w.heap.size + 1 := by rw [hW1]; simp
  have hW1le : W1.heap.size ≤ w.heap.size + 1 := Nat.le_of_eq hz1w
  have HBI := Lib.hid (fun w' (k : Below W1.heap.size W1 w') => KB.wide (ok' := (· < w.heap.size + 1)) (KB.keep hb fun g o hlt => (next0 B1.out k).cell (p := ⟨g, o, none⟩) (Nat.lt_of_lt_of_le hlt hB)) fun g hlt => by omega)
  have HT := Lib.hid (fun w' (k : Below W1.heap.size W1 w') => three (T1.out.step0 k))
  have HR := Lib.hid hR
  have HB := Lib.hid hB
  have hls : s.length ≤ 1000000 := hn
  have ST0 : Hid (PutSt b s 0 false []) := Lib.hid (Or.inr ⟨rfl, rfl, fun x hx => by simp at hx⟩)
  have SE := Lib.hid (fun out (h : PutSt b s s.length true out) => show out = putS b s from by
    rcases h with ⟨_, h, _⟩ | ⟨h, _⟩
    · rw [h, List.take_length]
    · cases h)
  have SF := Lib.hid (fun out (h : PutSt b s s.length false out) => show out ++ [b] = putS b s from by
    rcases h with ⟨h, _⟩ | ⟨_, h1, h2⟩
    · cases h
    · rw [List.take_length] at h1 h2
      rw [put_none h2, h1])
  have SL := Lib.hid (fun k dn out (h : PutSt b s k dn out) => show out.length ≤ s.length + 1 from by
    rcases h with ⟨_, h, _⟩ | ⟨_, h, _⟩
    · rw [h, put_len, List.length_take]; omega
    · rw [h, List.length_take]; omega)
  have ST1 := Lib.hid (fun k out (x : Bd) (h : PutSt b s k true out) (hx : s[k]? = some x) => st_true h hx)
  have ST2 := Lib.hid (fun k out (x : Bd) (h : PutSt b s k false out) (hx : s[k]? = some x) (hz : ltB b.1 x.1 = false) => st_false h hx hz)
  have ST3 := Lib.hid (fun k out (x : Bd) (h : PutSt b s k false out) (hx : s[k]? = some x) (hz : ltB b.1 x.1 = true) => st_hit h hx hz)
  have OA := Lib.hid (fun (w2 w3 : World) (o : Obj) (L : List (Bd × Value)) (v : Value) (x : Bd × Value) (g cap : Nat) (h : OwnQ (w.heap.size + 1) w2 L v) (k : Below W1.heap.size W1 w2) hx hown hgrow => OwnQ.add (o := o) (w3 := w3) (g := g) (cap := cap) (x := x) h (by have := k.size; omega) hx hown hgrow)
  generalize hln : s.length = n at *
  have HLN := Lib.hid hln
  clear hs hR hB hn hb hln
  have HPB := Lib.hid (rfl : PutSt b s = PutSt b s)
  unfold InsR
  go_enter Tryz.func61, Tryz.ntmps61
  go_upto_region 1 with fail
  rw [← hW1]
  clear hW1
  go_wp2_with fail
  go_loopw [5, 6, 7] (fun v dv i wr => ∃ (k : Nat) (dn : Bool) (L : List (Bd × Value)), k ≤ n ∧ dv = .bool dn ∧ i = .int .i64 k ∧ Hid (PutSt b s k dn (L.map (·.1))) ∧ Hid (OwnQ (w.heap.size + 1) wr L v) ∧ Hid (Below W1.heap.size W1 wr)) (fun _ _ i _ => n - (intOf i).toNat)
  case atStart => exact ⟨0, false, [], Nat.zero_le _, rfl, rfl, ST0, Lib.hid (OwnQ.nil _ _), Lib.hid (Below.refl _ _)⟩
  case round =>
    obtain ⟨k, dn, L, hk, rfl, rfl, hP, hO, hD⟩ := hrel
    obtain ⟨va, vc, rfl⟩ := hO.out.form
    have hLn : L.length ≤ 1000001 := by have := SL.out _ _ _ hP.out; rw [List.length_map] at this; omega
    obtain ⟨y1, y2, y3⟩ := HT.out wr hD.out
    have hzr : w.heap.size + 1 ≤ wr.heap.size := by have := hD.out.size; omega
    have A1 := bd3 hLn
    have A2 := bd4 hLn
    have B1' := bd1 hLn
    have B2' := bd2 hLn
    have hzb2 : w.heap.size + 1 ≤ (wr.alloc (.cells #[.string b.1, .string b.2.nm, .slice pb b.2.args.length cb] 52)).heap.size := by simp; omega
    by_cases hlt : k < n
    · obtain ⟨x, g1, o, q, d, hx, rfl, hg, c1, c2, c3, hxs, hxn, hxv⟩ := (RowS.deep HR.out (next0 B1.out hD.out) HB.out) k (by rw [HLN.out]; exact hlt)
      have XC := Lib.hid (fun w' (g : Below (w.heap.size + 1) wr w') => And.intro ((g.cell (p := ⟨g1, _, none⟩) (by have := HB.out; show g1 < w.heap.size + 1; omega)).trans c1) (And.intro ((g.cell (p := ⟨g1, _, none⟩) (by have := HB.out; show g1 < w.heap.size + 1; omega)).trans c2) ((g.cell (p := ⟨g1, _, none⟩) (by have := HB.out; show g1 < w.heap.size + 1; omega)).trans c3)))
      have XI : Hid (KB.inn (· < w.heap.size + 1) wr (x, .slice q x.2.args.length d)) := Lib.hid ⟨hxs.weaken fun b hlt => by have := HB.out; omega, hxn, hxv⟩
      obtain ⟨z, hz⟩ : ∃ z, Op.bytesLess b.1.toList x.1.toList = z := ⟨_, rfl⟩
      have HZ : Hid (ltB b.1 x.1 = z) := Lib.hid (by unfold ltB; rw [← hz, ByteArray.toList_eq, ByteArray.toList_eq])
      have S1 := Lib.hid (fun out h => ST1.out k out x h hx)
      have S2 := Lib.hid (fun out h hz => ST2.out k out x h hx hz)
      have S3 := Lib.hid (fun out h hz => ST3.out k out x h hx hz)
      have hzr2 : w.heap.size + 1 ≤ (wr.alloc (.cells #[.string x.1, .string x.2.nm, .slice q x.2.args.length d] 52)).heap.size := by simp; omega
      clear hxs hxn hxv hx SE SF SL ST1 ST2 ST3 ST0
      cases dn
      · cases z
        · go_wp2_with fail
          go_quiet (fail)
          all_goals
            go_wp2_with (at_builtin; refine wpList_append_lies _ rfl _ _ 22 rfl (w.heap.size + 1) 52 i0 zB 3 56 Tryz.underlying22 hi hz0 hz1 hz2 rfl (by decide) (.slice va L.length vc) L.length (KB.flat L) rfl (hO.out.1.alloc _) ⟨wr.heap.size, 0, none⟩ 1 1 [.string x.1, .string x.2.nm, .slice q x.2.args.length d] rfl rfl (newsK _ _ _ _ _) (one_B _ _ _ _ _) (by decide) A1 A2 hzr2 (wr.heap.size + 1) (by simp) ?_; intro g5 cap5 w7 hown hgrow hat hlt5)
            obtain ⟨O7, B7⟩ := OA.out (wr.drewN nq) w7 _ L _ (x, .slice q x.2.args.length d) g5 cap5 (hO.out.drewN nq) (below_drewN hD.out nq) (KB.keep XI.out fun _ _ _ => rfl) hown hgrow
            have O7 := Lib.hid O7
            have D7 : Hid (Below W1.heap.size W1 w7) := Lib.hid ((below_drewN hD.out nq).trans (B7.mono hW1le))
            clear hown hgrow hat B7
            go_wp2_with fail
            go_roundw
            case rel => exact ⟨k + 1, false, L ++ [(x, .slice q x.2.args.length d)], by omega, rfl, by go_num, Lib.hid (by rw [List.map_append]; exact S2.out _ hP.out HZ.out), O7, D7⟩
            case measure => simp [intOf]; omega
        · go_wp2_with fail
          go_quiet (fail)
          all_goals
            go_upto_region 8 with (at_builtin; refine wpList_append_lies _ rfl _ _ 22 rfl (w.heap.size + 1) 52 i0 zB 3 56 Tryz.underlying22 hi hz0 hz1 hz2 rfl (by decide) (.slice va L.length vc) L.length (KB.flat L) rfl (hO.out.1.alloc _) ⟨wr.heap.size, 0, none⟩ 1 1 [.string b.1, .string b.2.nm, .slice pb b.2.args.length cb] rfl rfl (newsK _ _ _ _ _) (one_B _ _ _ _ _) (by decide) A1 A2 hzb2 (wr.heap.size + 1) (by simp) ?_; intro g5 cap5 w7 hown hgrow hat hlt5)
            obtain ⟨O7, B7⟩ := OA.out (wr.drewN nq) w7 _ L _ (b, .slice pb b.2.args.length cb) g5 cap5 (hO.out.drewN nq) (below_drewN hD.out nq) (KB.keep (HBI.out wr hD.out) fun _ _ _ => rfl) hown hgrow
            have D7 : Hid (Below W1.heap.size W1 w7) := Lib.hid ((below_drewN hD.out nq).trans (B7.mono hW1le))
            have BW : Below (w.heap.size + 1) wr w7 := (below_drewN (Below.refl _ _) nq).trans B7
            obtain ⟨d1, d2, d3⟩ := XC.out w7 BW
            have XI7 : Hid (KB.inn (· < w.heap.size + 1) w7 (x, .slice q x.2.args.length d)) := Lib.hid (KB.keep XI.out fun g o hlt => BW.cell (p := ⟨g, o, none⟩) hlt)
            have LL : (L ++ [(b, Value.slice pb b.2.args.length cb)]).length = L.length + 1 := by simp
            have O7 := Lib.hid O7
            have OR : w7.ownsRow (w.heap.size + 1) 52 3 (.slice (some ⟨g5, 0, none⟩) (L.length + 1) cap5) (L.length + 1) (KB.flat (L ++ [(b, Value.slice pb b.2.args.length cb)])) := by have := O7.out.1; rw [LL] at this; exact this
            have hz7 : w.heap.size + 1 ≤ (w7.alloc (.cells #[.string x.1, .string x.2.nm, .slice q x.2.args.length d] 52)).heap.size := Nat.le_trans hzr (Nat.le_trans BW.size (by simp))
            clear hown hgrow hat B7 y1 y2 y3 c1 c2 c3 BW
            go_wp2_with (at_builtin; refine wpList_append_lies _ rfl _ _ 22 rfl (w.heap.size + 1) 52 i0 zB 3 56 Tryz.underlying22 hi hz0 hz1 hz2 rfl (by decide) (.slice (some ⟨g5, 0, none⟩) (L.length + 1) cap5) (L.length + 1) (KB.flat (L ++ [(b, Value.slice pb b.2.args.length cb)])) rfl (OR.alloc _) ⟨w7.heap.size, 0, none⟩ 1 1 [.string x.1, .string x.2.nm, .slice q x.2.args.length d] rfl rfl (newsK _ _ _ _ _) (one_B _ _ _ _ _) (by decide) B1' B2' hz7 (w7.heap.size + 1) (by simp) ?_; intro g6 cap6 w8 hown hgrow hat hlt6)
            obtain ⟨O8, B8⟩ := OA.out w7 w8 _ (L ++ [(b, .slice pb b.2.args.length cb)]) (.slice (some ⟨g5, 0, none⟩) (L.length + 1) cap5) (x, .slice q x.2.args.length d) g6 cap6 O7.out D7.out XI7.out (by rw [LL]; exact hown) hgrow
            have O8 := Lib.hid O8
            rw [LL] at O8
            have D8 : Hid (Below W1.heap.size W1 w8) := Lib.hid (D7.out.trans (B8.mono hW1le))
            clear hown hgrow hat B8
            go_wp2_with fail
            go_roundw
            case rel => exact ⟨k + 1, true, L ++ [(b, .slice pb b.2.args.length cb)] ++ [(x, .slice q x.2.args.length d)], by omega, rfl, by go_num, Lib.hid (by rw [List.map_append, List.map_append]; exact S3.out _ hP.out HZ.out), O8, D8⟩
            case measure => simp [intOf]; omega
      · go_wp2_with fail
        go_quiet (fail)
        all_goals
          go_wp2_with (at_builtin; refine wpList_append_lies _ rfl _ _ 22 rfl (w.heap.size + 1) 52 i0 zB 3 56 Tryz.underlying22 hi hz0 hz1 hz2 rfl (by decide) (.slice va L.length vc) L.length (KB.flat L) rfl (hO.out.1.alloc _) ⟨wr.heap.size, 0, none⟩ 1 1 [.string x.1, .string x.2.nm, .slice q x.2.args.length d] rfl rfl (newsK _ _ _ _ _) (one_B _ _ _ _ _) (by decide) A1 A2 hzr2 (wr.heap.size + 1) (by simp) ?_; intro g5 cap5 w7 hown hgrow hat hlt5)
          obtain ⟨O7, B7⟩ := OA.out (wr.drewN nq) w7 _ L _ (x, .slice q x.2.args.length d) g5 cap5 (hO.out.drewN nq) (below_drewN hD.out nq) (KB.keep XI.out fun _ _ _ => rfl) hown hgrow
          have O7 := Lib.hid O7
          have D7 : Hid (Below W1.heap.size W1 w7) := Lib.hid ((below_drewN hD.out nq).trans (B7.mono hW1le))
          clear hown hgrow hat B7
          go_wp2_with fail
          go_roundw
          case rel => exact ⟨k + 1, true, L ++ [(x, .slice q x.2.args.length d)], by omega, rfl, by go_num, Lib.hid (by rw [List.map_append]; exact S1.out _ hP.out), O7, D7⟩
          case measure => simp [intOf]; omega
    · obtain rfl : k = n := by omega
      cases dn
      · go_wp2_with (at_builtin; refine wpList_append_lies _ rfl _ _ 22 rfl (w.heap.size + 1) 52 i0 zB 3 56 Tryz.underlying22 hi hz0 hz1 hz2 rfl (by decide) (.slice va L.length vc) L.length (KB.flat L) rfl (hO.out.1.alloc _) ⟨wr.heap.size, 0, none⟩ 1 1 [.string b.1, .string b.2.nm, .slice pb b.2.args.length cb] rfl rfl (newsK _ _ _ _ _) (one_B _ _ _ _ _) (by decide) A1 A2 hzb2 (wr.heap.size + 1) (by simp) ?_; intro g5 cap5 w7 hown hgrow hat hlt5)
        obtain ⟨O7, B7⟩ := OA.out wr w7 _ L _ (b, .slice pb b.2.args.length cb) g5 cap5 hO.out hD.out (HBI.out wr hD.out) hown hgrow
        have S7 : Hid (SIn (· < w7.heap.size) w7 (putS b s) (.slice (some ⟨g5, 0, none⟩) (L.length + 1) cap5)) := Lib.hid (by
          have := O7.sin (by have := B7.size; omega)
          rw [List.map_append] at this
          rw [← SF.out _ hP.out]
          exact this)
        have D7 : Hid (Below w.heap.size w w7) := Lib.hid ((next0 B1.out hD.out).trans (B7.mono (Nat.le_succ _)))
        clear hown hgrow hat B7 O7
        go_wp2_with fail
        go_ret
        exact ⟨_, rfl, S7.out, D7.out⟩
      · have S7 : Hid (SIn (· < wr.heap.size) wr (putS b s) (.slice va L.length vc)) := Lib.hid (by
          rw [← SE.out _ hP.out]
          exact hO.out.sin (by omega))
        go_wp2_with fail
        go_ret
        exact ⟨_, rfl, S7.out, next0 B1.out hD.out⟩
end UniR
end Go.Proofs.YtaenalpckloikaaGreatDoor
/- gameplayerplain.Term and Terms: equality of terms. -/
namespace Go.Proofs.YtaenalpckloikaaGreatDoor
open Go Go.RowKit
namespace TermEq
open LexM TermM TermI Kit TermN TermP TermQ TermR
def EqT (x : Tm) : Prop := ∀ (R : Bool) (B : Nat) (w : World) (sv : Value) (y : Tm) (sv' : Value), (R = true ↔ x = y) → B ≤ w.heap.size → SlIn (· < B) w x.args sv → SlIn (· < B) w y.args sv' →
  Calls Tryz.prog 18 #[.agg #[.string x.nm, sv], .agg #[.string y.nm, sv']] w fun e w' => e = .returned (.bool R) ∧ Gr w w'
theorem eq_at {l r : List Tm} {k : Nat} {x y : Tm} (h : l[k]? = some x) (h' : r[k]? = some y) : l.drop k = r.drop k ↔ x = y ∧ l.drop (k + 1) = r.drop (k + 1) := by
  rw [drop_get h, drop_get h']; simp
theorem eq_end {l r : List Tm} {k : Nat} (h : l.length ≤ k) (h' : r.length ≤ k) : l.drop k = r.drop k := by
  rw [List.drop_eq_nil_of_le h, List.drop_eq_nil_of_le h']
theorem b_iff_false {R : Bool} {p : Prop} (h : R = true ↔ p) (hp : ¬p) : R = false := by cases R <;> simp_all
theorem ret_bool {a b : Bool} (h : a = b) : Ending.returned (Value.bool a) = Ending.returned (Value.bool b) := by rw [h]
set_option maxRecDepth 100000 in
set_option maxHeartbeats 3200000 in
theorem terms_of (l r : List Tm) (hC : ∀ x ∈ l, EqT x) (R : Bool) (hRR : R = true ↔ l = r) (B : Nat) (w : World) (v v' : Value) (hB : B ≤ w.heap.size) (h : SlIn (· < B) w l v) (h' : SlIn (· < B) w r v') :
    Calls Tryz.prog 43 #[v, v'] w fun e w' => e = .returned (.bool R) ∧ Gr w w' := by
  obtain ⟨p, c, rfl, _, hc, hm, hR⟩ := h.row
  obtain ⟨p', c', rfl, _, hc', hm', hR'⟩ := h'.row
  have hlf : l.length ≤ 9223372036854775807 := Nat.le_trans hc hm
  have hlf' : r.length ≤ 9223372036854775807 := Nat.le_trans hc' hm'
  have HC := Lib.hid hC
  have HR := Lib.hid hR
  have HR' := Lib.hid hR'
  have HB := Lib.hid hB
  have HQ := Lib.hid hRR
  have L1 := Lib.hid (fun k x y h h' => eq_at (l := l) (r := r) (k := k) (x := x) (y := y) h h')
  have L3 := Lib.hid (fun k h h' => eq_end (l := l) (r := r) (k := k) h h')
  have L0 : Hid (R = true ↔ l.drop 0 = r.drop 0) := Lib.hid (by simpa using hRR)
  generalize hlm : l.length = m at *
  generalize hrm : r.length = m' at *
  have HM := Lib.hid hlm
  have HM' := Lib.hid hrm
  clear hC hR hR' h h' hc hc' hm hm' hlm hrm hRR
  by_cases hmm : m = m'
  · subst hmm
    clear HQ
    go_enter Tryz.func43, Tryz.ntmps43
    go_wp2_with fail
    go_loopw [13] (fun i wr => ∃ k : Nat, k ≤ m ∧ i = .int .i64 k ∧ Hid (R = true ↔ l.drop k = r.drop k) ∧ Hid (Gr w wr)) (fun i _ => m - (intOf i).toNat)
    case atStart => exact ⟨0, Nat.zero_le _, rfl, L0, Lib.hid (Gr.refl _)⟩
    case round =>
      obtain ⟨k, hk, rfl, hA, hg⟩ := hrel
      by_cases hlt : k < m
      · obtain ⟨t, b, o, q, d, ht, rfl, hb, c1, c2, hs, hts⟩ := (HR.out.gr hg.out HB.out) k (by rw [HM.out]; exact hlt)
        obtain ⟨t', b', o', q', d', ht', rfl, hb', c1', c2', hs', hts'⟩ := (HR'.out.gr hg.out HB.out) k (by rw [HM'.out]; exact hlt)
        have N1 := Lib.hid (hA.out.trans (L1.out k t t' ht ht'))
        obtain ⟨z, hz⟩ : ∃ z : Bool, Hid (z = true ↔ t = t') := ⟨decide (cmpT t t' = 0), Lib.hid (by rw [decide_eq_true_iff]; exact cmp_zero t t')⟩
        have KK := Lib.hid (fun w2 (g : Gr wr w2) => HC.out t (List.mem_of_getElem? ht) z B w2 _ t' _ hz.out (Nat.le_trans HB.out (hg.out.trans g).size) (hs.gr g (Nat.le_trans HB.out hg.out.size)) (hs'.gr g (Nat.le_trans HB.out hg.out.size)))
        clear hs hs' hts hts' ht ht' hA
        generalize t.nm = tn at *
        generalize t'.nm = tn' at *
        generalize t.args.length = ta at *
        generalize t'.args.length = ta' at *
        cases z
        · have HF : Hid (R = false) := Lib.hid (b_iff_false N1.out (fun hh => by have := hz.out.2 hh.1; simp at this))
          clear N1 hz
          go_upto_region 6 with fail
          go_cut [25] (fun s25 wx => s25 = .bool true ∧ Hid (Gr wr wx))
          case first =>
            go_region_with (first | (go_at_call 18; (with_reducible refine (KK.out _ (by first | exact Gr.drew _ | exact Gr.refl _)).mono ?_); rintro e w3 ⟨rfl, g3⟩; have G3 := Lib.hid (Gr.trans (by first | exact Gr.drew _ | exact Gr.refl _) g3 : Gr wr w3); clear g3))
            all_goals
              go_wp2_with fail
              go_meet
              exact ⟨rfl, G3⟩
          case rest =>
            obtain ⟨rfl, G3⟩ := hcut
            go_wp2_with fail
            go_ret
            exact ⟨ret_bool HF.out.symm, hg.out.trans G3.out⟩
        · have HF : Hid (R = true ↔ l.drop (k + 1) = r.drop (k + 1)) := Lib.hid (N1.out.trans ⟨fun hh => hh.2, fun hh => ⟨hz.out.1 rfl, hh⟩⟩)
          clear N1 hz
          go_upto_region 6 with fail
          go_cut [25] (fun s25 wx => s25 = .bool false ∧ Hid (Gr wr wx))
          case first =>
            go_region_with (first | (go_at_call 18; (with_reducible refine (KK.out _ (by first | exact Gr.drew _ | exact Gr.refl _)).mono ?_); rintro e w3 ⟨rfl, g3⟩; have G3 := Lib.hid (Gr.trans (by first | exact Gr.drew _ | exact Gr.refl _) g3 : Gr wr w3); clear g3))
            all_goals
              go_wp2_with fail
              go_meet
              exact ⟨rfl, G3⟩
          case rest =>
            obtain ⟨rfl, G3⟩ := hcut
            go_wp2_with fail
            go_roundw
            case rel => exact ⟨k + 1, by omega, by go_num, HF, Lib.hid (hg.out.trans G3.out)⟩
            case measure => simp [intOf]; omega
      · obtain rfl : k = m := by omega
        have HA2 : Hid (R = true) := Lib.hid (hA.out.2 (L3.out k (Nat.le_refl _) (Nat.le_refl _)))
        go_wp2_with fail
        go_ret
        exact ⟨ret_bool HA2.out.symm, hg.out⟩
  · have HF : Hid (R = false) := Lib.hid (b_iff_false HQ.out (fun hh => hmm (by have h1 := HM.out; have h2 := HM'.out; rw [hh] at h1; omega)))
    clear L0 HQ
    go_enter Tryz.func43, Tryz.ntmps43
    go_wp2_with fail
    go_ret
    exact ⟨ret_bool HF.out.symm, Gr.refl _⟩
set_option maxRecDepth 100000 in
set_option maxHeartbeats 3200000 in
theorem term_any (x : Tm) : EqT x := by
  induction x using Tm.ind with
  | h n l ih =>
    rintro R B w sv ⟨m, r⟩ sv' hR hB h h'
    dsimp only [Tm.args, Tm.nm] at h h' ⊢
    obtain ⟨p, c, rfl⟩ := h.form
    obtain ⟨p', c', rfl⟩ := h'.form
    have KK := Lib.hid (fun (hnm : n = m) w2 (g : Gr w w2) => terms_of l r ih R (by rw [hR, hnm]; simp) B w2 _ _ (Nat.le_trans hB g.size) (h.gr g hB) (h'.gr g hB))
    have HR := Lib.hid hR
    generalize l.length = a at *
    generalize r.length = b at *
    clear h h' ih hR
    by_cases hnm : n = m
    · have K2 := Lib.hid (KK.out hnm)
      clear KK HR
      subst hnm
      go_enter Tryz.func18, Tryz.ntmps18
      go_wp2_with fail
      refine (K2.out _ (by first | exact (Gr.alloc _ _).more _ | exact ((Gr.alloc _ _).more _).trans (Gr.drew _))).mono ?_
      rintro e w' ⟨rfl, g⟩
      have hg := Lib.hid (((Gr.alloc _ _).more _).trans g)
      clear g
      go_wp2_with fail
      go_ret
      exact ⟨rfl, hg.out⟩
    · have hb : (n.toList == m.toList) = false := by rw [beq_eq_false_iff_ne, Ne, ByteArray.toList_eq, ByteArray.toList_eq]; exact fun hh => hnm (bytes_inj hh)
      have HF : Hid (R = false) := Lib.hid (b_iff_false HR.out (fun hh => hnm (by injection hh)))
      clear KK HR
      go_enter Tryz.func18, Tryz.ntmps18
      go_wp2_with fail
      go_ret
      exact ⟨ret_bool HF.out.symm, (Gr.alloc _ _).more _⟩
end TermEq
end Go.Proofs.YtaenalpckloikaaGreatDoor
/- The reference's extend. Condition: bindings and pattern together at most a million. -/
namespace Go.Proofs.YtaenalpckloikaaGreatDoor
open Go Go.RowKit
namespace UniS
open LexM TermM TermI Kit TermN TermU UniK UniM UniA UniC UniD UniE UniG UniJ UniO UniL UniR
set_option maxRecDepth 100000 in
set_option maxHeartbeats 1600000 in
theorem rext_var (n : ByteArray) (t : Tm) (s : List Bd) (hl : s.length ≤ 1000000) (B : Nat) (w : World) (sv tv : Value) (p1 : Option Addr) (c1 : Nat) (hB : B ≤ w.heap.size) (hs : SIn (· < B) w s sv) (ht : SlIn (· < B) w t.args tv) (hpn : n.size ≤ maxLen) (htn : t.nm.size ≤ maxLen) (hv : isV (.mk n []) = true) :
    Calls Tryz.prog 52 #[.agg #[.string n, .slice p1 0 c1], .agg #[.string t.nm, tv], sv] w (BndR (bindP false s n t) w) := by
  obtain ⟨p2, c2, rfl⟩ := ht.form
  obtain ⟨W2, hW2⟩ : ∃ W2, W2 = (w.alloc (.cells #[.string n, .slice p1 0 c1] 27)).alloc (.cells #[.string t.nm, .slice p2 t.args.length c2] 27) := ⟨_, rfl⟩
  have G2 : Gr w W2 := by rw [hW2]; exact (Gr.alloc _ _).more _
  have H2 : Hid (Has W2 w.heap.size #[.string n, .slice p1 0 c1]) := Lib.hid (by rw [hW2]; exact (Has.new w _ _).alloc _)
  have T2 : Hid (Has W2 (w.heap.size + 1) #[.string t.nm, .slice p2 t.args.length c2]) := Lib.hid (by rw [hW2]; exact Has.new1 w _ _ _)
  have CV := Lib.hid (fun w' => rvar_t (.mk n []) p1 c1 w' hpn)
  rw [hv] at CV
  dsimp only [Tm.nm, Tm.args, List.length_nil] at CV
  have CL := Lib.hid (fun w' (k : Below w.heap.size w w') => rlookup_any s n B w' sv (Nat.le_trans hB k.size) (hs.deep k hB))
  have CP := Lib.hid (fun w' (k : Below w.heap.size w w') => put_any s (n, t) hl B w' sv (.slice p2 t.args.length c2) (Nat.le_trans hB k.size) (hs.deep k hB) ⟨ht.deep k hB, htn, hpn⟩)
  have CE := Lib.hid (fun (u : Tm) (q : Value) w' (k : Below w.heap.size w w') (hu : SlIn (· < B) w' u.args q) => TermEq.term_any u (cmpT u t == 0) B w' q t (.slice p2 t.args.length c2) (by rw [beq_iff_eq, cmp_zero]) (Nat.le_trans hB k.size) hu (ht.deep k hB))
  have SS := Lib.hid (fun w' (k : Below w.heap.size w w') => (hs.deep k hB).wide (ok' := (· < w'.heap.size)) fun b hb => by have := k.size; omega)
  have EPs := Lib.hid (fun u (h : lookS s n = some u) => show bindP false s n t = (if cmpT u t = 0 then some s else none) from by unfold bindP; rw [h])
  have EPn := Lib.hid (fun (h : lookS s n = none) => show bindP false s n t = some (putS (n, t) s) from by unfold bindP; rw [h]; simp)
  have GG := Lib.hid G2
  obtain ⟨y1, y2, y3, y4, y5⟩ := H2.out.two
  clear hs ht hpn htn hv hl G2
  generalize lookS s n = o9 at *
  dsimp only at CP
  generalize t.nm = tn at *
  generalize t.args.length = ta at *
  unfold RLkR at CL
  unfold InsR at CP
  go_enter Tryz.func52, Tryz.ntmps52
  go_upto_region 1 with fail
  rw [← hW2]
  clear hW2
  go_wp2_with fail
  refine (CV.out _).mono ?_
  rintro e w3 ⟨rfl, g3⟩
  have D3 := Lib.hid (next0 GG.out.1 g3.1)
  have H3 := Lib.hid (H2.out.step0 g3.1)
  have T3 := Lib.hid (T2.out.step0 g3.1)
  clear y1 y2 y3 y4 y5 CV g3 H2 T2
  obtain ⟨y1, y2, y3, y4, y5⟩ := H3.out.two
  go_wp2_with fail
  refine (CL.out _ D3.out).mono ?_
  rintro e w4 ⟨u, q, d, f, rfl, hc, hS, hnu, hb⟩
  have D4 := Lib.hid (next0 D3.out hb)
  have H4 := Lib.hid (H3.out.step0 hb)
  have T4 := Lib.hid (T3.out.step0 hb)
  have S4 := Lib.hid hS
  have HC := Lib.hid hc
  clear y1 y2 y3 y4 y5 CL hb D3 H3 T3 hS hnu hc
  obtain ⟨y1, y2, y3, y4, y5⟩ := H4.out.two
  obtain ⟨z1, z2, z3, z4, z5⟩ := T4.out.two
  have K5 := Lib.hid (fun (o : Obj) => below_alloc w4 o)
  have T5 := Lib.hid (fun (o : Obj) => (T4.out.alloc o).two)
  have H5 := Lib.hid (fun (o : Obj) => (H4.out.alloc o).two)
  rcases HC.out with ⟨ho, rfl⟩ | ⟨ho, hu, rfl⟩
  · subst ho
    have CE5 := Lib.hid (fun (w' : World) (k : Below w4.heap.size w4 w') => CE.out u (.slice q u.args.length d) w' (next0 D4.out k) (S4.out.deep k (by have := D4.out.size; omega)))
    obtain ⟨z, hz⟩ : ∃ z, (cmpT u t == 0) = z := ⟨_, rfl⟩
    have EZ : Hid (bindP false s n t = if z = true then some s else none) := Lib.hid (by rw [EPs.out u rfl, ← hz]; simp)
    rw [hz] at CE5
    clear hz CE HC EPs EPn S4
    generalize u.nm = un at *
    generalize u.args.length = ua at *
    go_wp2_with fail
    refine (CE5.out _ (below_alloc _ _)).mono ?_
    rintro e w5 ⟨rfl, g5⟩
    have D5 := Lib.hid (next0 D4.out (next0 (below_alloc w4 _) g5.1))
    go_wp2_with fail
    refine bodyPost_ret (v := .tuple #[sv, .bool z]) (by simp [results, Tryz.results52, go_sem]) rfl ?_
    unfold BndR
    cases z
    · exact ⟨_, false, rfl, (fun h => by cases h), (fun _ => EZ.out), D5.out⟩
    · exact ⟨_, true, rfl, (fun _ => ⟨s, EZ.out, SS.out _ D5.out⟩), (fun h => by cases h), D5.out⟩
  · subst ho
    subst hu
    have EO := Lib.hid (EPn.out rfl)
    clear EPs EPn CE HC
    go_wp2_with fail
    refine (CP.out _ (next0 D4.out (below_alloc _ _))).mono ?_
    rintro e w5 ⟨v5, rfl, hS5, hb5⟩
    have D5 := Lib.hid (next0 D4.out (next0 (below_alloc w4 _) hb5))
    have S5 := Lib.hid hS5
    clear hS5 hb5
    go_wp2_with fail
    refine bodyPost_ret (v := .tuple #[v5, .bool true]) (by simp [results, Tryz.results52, go_sem]) rfl ?_
    unfold BndR
    exact ⟨_, true, rfl, (fun _ => ⟨_, EO.out, S5.out⟩), (fun h => by cases h), D5.out⟩
set_option maxRecDepth 100000 in
set_option maxHeartbeats 3200000 in
theorem rext_any (p : Tm) : ∀ (t : Tm) (s : List Bd), Srt s → s.length + sizeT p ≤ 1000000 → ∀ (B : Nat) (w : World) (sv pv tv : Value), B ≤ w.heap.size → SIn (· < B) w s sv → SlIn (· < B) w p.args pv → SlIn (· < B) w t.args tv → p.nm.size ≤ maxLen → t.nm.size ≤ maxLen →
    Calls Tryz.prog 52 #[.agg #[.string p.nm, pv], .agg #[.string t.nm, tv], sv] w (BndR (extP false p t s) w) := by
  induction p using Tm.ind with
  | h n l ih =>
    rintro ⟨n2, r⟩ s hS hl B w sv pv tv hB hs hp ht hpn htn
    by_cases hv : isV (.mk n l) = true
    · have hl0 : l = [] := by cases l with
        | nil => rfl
        | cons a l => simp [isV, Tm.args] at hv
      subst hl0
      obtain ⟨p1, c1, rfl⟩ := hp.form
      have := rext_var n (.mk n2 r) s (by omega) B w sv tv p1 c1 hB hs ht hpn htn hv
      have e : extP false (.mk n []) (.mk n2 r) s = bindP false s n (.mk n2 r) := by rw [extP, if_pos hv]
      rw [e]
      exact this
    have hv0 : isV (.mk n l) = false := by simpa using hv
    dsimp only [Tm.args, Tm.nm] at hp hpn ht htn ⊢
    obtain ⟨p1, c1, rfl, _, hlc, hcm, hPR⟩ := hp.row
    obtain ⟨p2, c2, rfl, _, _, _, hTR⟩ := ht.row
    have h63 : l.length ≤ 9223372036854775807 := by unfold maxLen at hcm; omega
    clear hlc hcm
    obtain ⟨W2, hW2⟩ : ∃ W2, W2 = (w.alloc (.cells #[.string n, .slice p1 l.length c1] 27)).alloc (.cells #[.string n2, .slice p2 r.length c2] 27) := ⟨_, rfl⟩
    have G2 : Gr w W2 := by rw [hW2]; exact (Gr.alloc _ _).more _
    have H2 : Hid (Has W2 w.heap.size #[.string n, .slice p1 l.length c1]) := Lib.hid (by rw [hW2]; exact (Has.new w _ _).alloc _)
    have T2 : Hid (Has W2 (w.heap.size + 1) #[.string n2, .slice p2 r.length c2]) := Lib.hid (by rw [hW2]; exact Has.new1 w _ _ _)
    have CV := Lib.hid (fun w' => rvar_t (.mk n l) p1 c1 w' hpn)
    have IH : Hid (∀ x ∈ l, ∀ (y : Tm) (s' : List Bd), Srt s' → s'.length + sizeT x ≤ 1000000 → ∀ (w' : World) (sv' v1 v2 : Value), SIn (· < w'.heap.size) w' s' sv' → SlIn (· < w'.heap.size) w' x.args v1 → SlIn (· < w'.heap.size) w' y.args v2 → x.nm.size ≤ maxLen → y.nm.size ≤ maxLen → Calls Tryz.prog 52 #[.agg #[.string x.nm, v1], .agg #[.string y.nm, v2], sv'] w' (BndR (extP false x y s') w')) :=
      Lib.hid (fun x hx y s' h1 h2 w' sv' v1 v2 h3 h4 h5 h6 h7 => ih x hx y s' h1 h2 w'.heap.size w' sv' v1 v2 (Nat.le_refl _) h3 h4 h5 h6 h7)
    have KP := Lib.hid (fun (x : Tm) (y : Tm) s' s'' (h : Srt s') (e : extP false x y s' = some s'') => ext_keeps false x y s' s'' h e)
    have GG := Lib.hid G2
    have HB := Lib.hid hB
    have HPR := Lib.hid hPR
    have HTR := Lib.hid hTR
    have SS := Lib.hid (fun w' (k : Below w.heap.size w w') => (hs.deep k hB).wide (ok' := (· < w'.heap.size)) fun b hb => by have := k.size; omega)
    have hl2 : s.length + (sizeL (l.drop 0) + 1) ≤ 1000000 := by simpa [sizeT] using hl
    have HSL := Lib.hid (And.intro hS hl2)
    have SD := Lib.hid (fun k x (h : l[k]? = some x) => show sizeL (l.drop k) = sizeT x + sizeL (l.drop (k + 1)) from by
      obtain ⟨hk, rfl⟩ := List.getElem?_eq_some_iff.1 h
      rw [List.drop_eq_getElem_cons hk, sizeL])
    have EP : Hid (extP false (.mk n l) (.mk n2 r) s = if eqB n n2 && decide (l.length = r.length) then extL false l r s else none) := Lib.hid (by rw [extP, hv0]; rfl)
    rw [hv0] at CV
    clear hs hp ht hpn htn hPR hTR hS hl hl2 ih hB G2 hv hv0
    obtain ⟨y1, y2, y3, y4, y5⟩ := H2.out.two
    obtain ⟨zn, hzn⟩ : ∃ z, (n.toList == n2.toList) = z := ⟨_, rfl⟩
    have HZN : eqB n n2 = zn := by unfold eqB; rw [← hzn, ByteArray.toList_eq, ByteArray.toList_eq]
    rw [HZN] at EP
    have hzn2 : (n.toList != n2.toList) = !zn := by rw [bne, hzn]
    clear HZN
    dsimp only [Tm.nm, Tm.args] at CV
    unfold BndR at IH
    generalize hla : l.length = a at *
    generalize hlr : r.length = b at *
    have HLA := Lib.hid hla
    have HLR := Lib.hid hlr
    clear hla hlr
    go_enter Tryz.func52, Tryz.ntmps52
    go_upto_region 1 with fail
    rw [← hW2]
    clear hW2
    go_wp2_with fail
    refine (CV.out _).mono ?_
    rintro e w3 ⟨rfl, g3⟩
    have D3 := Lib.hid (next0 GG.out.1 g3.1)
    have H3 := Lib.hid (H2.out.step0 g3.1)
    have T3 := Lib.hid (T2.out.step0 g3.1)
    clear y1 y2 y3 y4 y5 g3 H2 T2 CV
    obtain ⟨y1, y2, y3, y4, y5⟩ := H3.out.two
    obtain ⟨z1, z2, z3, z4, z5⟩ := T3.out.two
    cases zn
    · have EO : Hid (extP false (.mk n l) (.mk n2 r) s = none) := Lib.hid (EP.out.trans (by simp))
      clear EP IH KP
      go_wp2_with fail
      refine bodyPost_ret (v := .tuple #[.slice none 0 0, .bool false]) (by simp [results, Tryz.results52, go_sem]) rfl ?_
      unfold BndR
      exact ⟨_, false, rfl, (fun h => by cases h), (fun _ => EO.out), D3.out⟩
    · by_cases hab : a = b
      · subst hab
        have EO : Hid (extP false (.mk n l) (.mk n2 r) s = extL false (l.drop 0) (r.drop 0) s) := Lib.hid (EP.out.trans (by simp))
        clear EP
        go_wp2_with fail
        clear y1 y2 y3 y4 y5 z1 z2 z3 z4 z5
        go_loopw [2, 10, 11] (fun v kv i wr => ∃ (k : Nat) (ok : Bool) (s' : List Bd), k ≤ a ∧ kv = .bool ok ∧ i = .int .i64 k ∧ Hid (ok = true → extL false (l.drop 0) (r.drop 0) s = extL false (l.drop k) (r.drop k) s' ∧ Srt s' ∧ s'.length + (sizeL (l.drop k) + 1) ≤ 1000000 ∧ SIn (· < wr.heap.size) wr s' v) ∧ Hid (ok = false → extL false (l.drop 0) (r.drop 0) s = none) ∧ Hid (Below w3.heap.size w3 wr)) (fun _ _ i _ => a - (intOf i).toNat)
        case atStart => exact ⟨0, true, s, Nat.zero_le _, rfl, rfl, Lib.hid (fun _ => ⟨rfl, HSL.out.1, HSL.out.2, SS.out _ D3.out⟩), Lib.hid (fun h => by cases h), Lib.hid (Below.refl _ _)⟩
        case round =>
          obtain ⟨k, ok, s', hk, rfl, rfl, hT, hF, hD⟩ := hrel
          obtain ⟨y1, y2, y3, y4, y5⟩ := (H3.out.step0 hD.out).two
          obtain ⟨z1, z2, z3, z4, z5⟩ := (T3.out.step0 hD.out).two
          have D5 := Lib.hid (next0 D3.out hD.out)
          cases ok
          · have EF : Hid (extP false (.mk n l) (.mk n2 r) s = none) := Lib.hid (EO.out.trans (hF.out rfl))
            clear hT hF IH KP
            by_cases hlt : k < a
            all_goals
              go_wp2_with fail
              refine bodyPost_ret (by simp [results, Tryz.results52, go_sem]; rfl) rfl ?_
              unfold BndR
              exact ⟨_, false, rfl, (fun h => by cases h), (fun _ => EF.out), D5.out⟩
          · have HQ := Lib.hid (hT.out rfl)
            clear hT hF
            by_cases hlt : k < a
            · obtain ⟨x, b, o, q, d, hx, rfl, hb, e1, e2, hxs, hxn⟩ := (Row.deep HPR.out D5.out HB.out) k (by rw [HLA.out]; exact hlt)
              obtain ⟨y, b2, o2, q2, d2, hy, rfl, hb2, u1, u2, hys, hyn⟩ := (Row.deep HTR.out D5.out HB.out) k (by rw [HLR.out]; exact hlt)
              have EX := Lib.hid (HQ.out.1.trans (ext_list hx hy s'))
              have SX := Lib.hid (SD.out k x hx)
              have hsx : s'.length + (sizeT x + sizeL (l.drop (k + 1)) + 1) ≤ 1000000 := by have := HQ.out.2.2.1; rw [SX.out] at this; exact this
              have CI := Lib.hid (fun w' (g : Below wr.heap.size wr w') => IH.out x (List.mem_of_getElem? hx) y s' HQ.out.2.1 (by omega) w' _ _ _ ((HQ.out.2.2.2.deep g (Nat.le_refl _)).wide fun b hb => Nat.lt_of_lt_of_le hb g.size) ((hxs.deep g (Nat.le_trans HB.out D5.out.size)).weaken fun b hb => Nat.lt_of_lt_of_le hb (Nat.le_trans HB.out (Nat.le_trans D5.out.size g.size))) ((hys.deep g (Nat.le_trans HB.out D5.out.size)).weaken fun b hb => Nat.lt_of_lt_of_le hb (Nat.le_trans HB.out (Nat.le_trans D5.out.size g.size))) hxn hyn)
              have KK := Lib.hid (fun s'' (e : extP false x y s' = some s'') => KP.out x y s' s'' HQ.out.2.1 e)
              have NX := Lib.hid (fun (n : Nat) (h : n ≤ s'.length + sizeT x) => show n + (sizeL (l.drop (k + 1)) + 1) ≤ 1000000 from by omega)
              clear hx hy hxs hxn hys hyn hsx SX IH KP SS SD HSL HQ
              generalize extP false x y s' = o9 at *
              generalize x.nm = xn at *
              generalize x.args.length = xa at *
              generalize y.nm = yn at *
              generalize y.args.length = ya at *
              go_wp2_with fail
              go_region_with (first
                | (go_at_call 52; (with_reducible refine (CI.out _ (by first | exact Below.refl _ _ | exact (Below.refl _ _).drew | exact below_drewN (Below.refl _ _) _)).mono ?_); rintro e w6 ⟨v6, f, rfl, h1, h2, hb6⟩; have D6 : Hid (Below wr.heap.size wr w6) := Lib.hid (by first | exact hb6 | exact next0 (Below.refl _ _).drew hb6 | exact next0 (below_drewN (Below.refl _ _) _) hb6); have HH := Lib.hid (And.intro h1 h2); clear h1 h2 hb6))
              all_goals
                go_wp2_with fail
                go_roundw
                case rel =>
                  cases f
                  · exact ⟨k + 1, false, [], by omega, rfl, by go_num, Lib.hid (fun h => by cases h), Lib.hid (fun _ => EX.out.trans (by rw [HH.out.2 rfl])), Lib.hid (next0 hD.out D6.out)⟩
                  · obtain ⟨s9, hs9, hI9⟩ := HH.out.1 rfl
                    exact ⟨k + 1, true, s9, by omega, rfl, by go_num, Lib.hid (fun _ => ⟨EX.out.trans (by rw [hs9]), (KK.out s9 hs9).1, NX.out _ (KK.out s9 hs9).2.2.1, hI9⟩), Lib.hid (fun h => by cases h), Lib.hid (next0 hD.out D6.out)⟩
                case measure => simp [intOf]; omega
            · obtain rfl : k = a := by omega
              have EF : Hid (extP false (.mk n l) (.mk n2 r) s = some s') := Lib.hid (by
                rw [EO.out, HQ.out.1, ← HLA.out, List.drop_length, HLA.out, ← HLR.out, List.drop_length]
                rfl)
              have I9 := Lib.hid HQ.out.2.2.2
              clear HQ IH KP
              go_wp2_with fail
              refine bodyPost_ret (by simp [results, Tryz.results52, go_sem]; rfl) rfl ?_
              unfold BndR
              exact ⟨_, true, rfl, (fun _ => ⟨s', EF.out, I9.out⟩), (fun h => by cases h), D5.out⟩
      · have hai : ((a : Int) == (b : Int)) = false := by rw [beq_eq_false_iff_ne]; omega
        have haj : ((a : Int) != (b : Int)) = true := by rw [bne, hai]; rfl
        have EO : Hid (extP false (.mk n l) (.mk n2 r) s = none) := Lib.hid (EP.out.trans (by simp [hab]))
        clear EP IH KP hab
        go_wp2_with fail
        refine bodyPost_ret (v := .tuple #[.slice none 0 0, .bool false]) (by simp [results, Tryz.results52, go_sem]) rfl ?_
        unfold BndR
        exact ⟨_, false, rfl, (fun h => by cases h), (fun _ => EO.out), D3.out⟩
end UniS
end Go.Proofs.YtaenalpckloikaaGreatDoor
