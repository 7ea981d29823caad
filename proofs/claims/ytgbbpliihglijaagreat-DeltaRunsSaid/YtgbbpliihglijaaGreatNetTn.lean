/- Three-valued evaluation of networks as plain data. No conditions. -/
import Derived.Test.YtgbbpliihglijaaGreatGBD
namespace Go.Proofs.YtgbbpliihglijaaGreat
open Go
namespace NetTn
open LexM TermM NetM NetN NetMk NetOk NetEv
def tv (x : Int) : Int := if x = 0 then 0 else if x = 1 then 1 else 2
theorem tv_cases (x : Int) : (x = 0 ∧ tv x = 0) ∨ (x = 1 ∧ tv x = 1) ∨ (x ≠ 0 ∧ x ≠ 1 ∧ tv x = 2) := by
  unfold tv
  by_cases h : x = 0
  · exact Or.inl ⟨h, if_pos h⟩
  · by_cases h1 : x = 1
    · exact Or.inr (Or.inl ⟨h1, by rw [if_neg h, if_pos h1]⟩)
    · exact Or.inr (Or.inr ⟨h, h1, by rw [if_neg h, if_neg h1]⟩)
theorem tv_tri (x : Int) : tv x = 0 ∨ tv x = 1 ∨ tv x = 2 := by
  rcases tv_cases x with h | h | h
  · exact Or.inl h.2
  · exact Or.inr (Or.inl h.2)
  · exact Or.inr (Or.inr h.2.2)
theorem tv_id {x : Int} (h : x = 0 ∨ x = 1 ∨ x = 2) : tv x = x := by
  rcases h with rfl | rfl | rfl <;> rfl
theorem tv_tv (x : Int) : tv (tv x) = tv x := tv_id (tv_tri x)
def tand (a b : Int) : Int := if tv a = 0 ∨ tv b = 0 then 0 else if tv a = 1 ∧ tv b = 1 then 1 else 2
def tnot (a : Int) : Int := if tv a = 0 then 1 else if tv a = 1 then 0 else 2
def tor (a b : Int) : Int := if tv a = 1 ∨ tv b = 1 then 1 else if tv a = 0 ∧ tv b = 0 then 0 else 2
/-- A number is a three-valued value. -/
def T3 (x : Int) : Prop := x = 0 ∨ x = 1 ∨ x = 2
theorem t3_tv (x : Int) : T3 (tv x) := tv_tri x
theorem t3_and (a b : Int) : T3 (tand a b) := by
  unfold tand T3
  split
  · exact Or.inl rfl
  · split
    · exact Or.inr (Or.inl rfl)
    · exact Or.inr (Or.inr rfl)
theorem t3_or (a b : Int) : T3 (tor a b) := by
  unfold tor T3
  split
  · exact Or.inr (Or.inl rfl)
  · split
    · exact Or.inl rfl
    · exact Or.inr (Or.inr rfl)
theorem t3_not (a : Int) : T3 (tnot a) := by
  unfold tnot T3
  split
  · exact Or.inr (Or.inl rfl)
  · split
    · exact Or.inl rfl
    · exact Or.inr (Or.inr rfl)
theorem tand_tv (a b : Int) : tand (tv a) (tv b) = tand a b := by unfold tand; rw [tv_tv, tv_tv]
theorem tor_tv (a b : Int) : tor (tv a) (tv b) = tor a b := by unfold tor; rw [tv_tv, tv_tv]
theorem tnot_tv (a : Int) : tnot (tv a) = tnot a := by unfold tnot; rw [tv_tv]
theorem tnot_two (a : Int) : tnot (tnot a) = tv a := by
  rw [← tnot_tv a]
  rcases tv_tri a with e | e | e <;> rw [e] <;> rfl
theorem tor_dual (a b : Int) : tor a b = tnot (tand (tnot a) (tnot b)) := by
  rw [← tor_tv a b, ← tnot_tv a, ← tnot_tv b]
  rcases tv_tri a with e | e | e <;> rcases tv_tri b with f | f | f <;> rw [e, f] <;> rfl
theorem tand_comm (a b : Int) : tand a b = tand b a := by
  rw [← tand_tv a b, ← tand_tv b a]
  rcases tv_tri a with e | e | e <;> rcases tv_tri b with f | f | f <;> rw [e, f] <;> rfl
theorem tor_comm (a b : Int) : tor a b = tor b a := by
  rw [← tor_tv a b, ← tor_tv b a]
  rcases tv_tri a with e | e | e <;> rcases tv_tri b with f | f | f <;> rw [e, f] <;> rfl
theorem tnot_and (a b : Int) : tnot (tand a b) = tor (tnot a) (tnot b) := by
  rw [← tand_tv a b, ← tnot_tv a, ← tnot_tv b]
  rcases tv_tri a with e | e | e <;> rcases tv_tri b with f | f | f <;> rw [e, f] <;> rfl
theorem tand_assoc (a b c : Int) : tand (tand a b) c = tand a (tand b c) := by
  rw [← tand_tv a b, ← tand_tv b c, ← tand_tv (tand (tv a) (tv b)) c, ← tand_tv a (tand (tv b) (tv c))]
  rcases tv_tri a with e | e | e <;> rcases tv_tri b with f | f | f <;> rcases tv_tri c with g | g | g <;> rw [e, f, g] <;> rfl
/-- a has the value of b wherever it is known. -/
def ref1 (a b : Int) : Bool := decide (tv b = 2) || decide (a = b)
def refN (a b : List Int) : Bool := decide (a.length = b.length) && (List.zipWith ref1 a b).all id
theorem ref_and2 (a : Int) {b : Int} : ref1 (tand a b) (tand a 2) = true := by
  unfold ref1
  rw [← tand_tv a b, ← tand_tv a 2]
  rcases tv_tri a with e | e | e <;> rcases tv_tri b with f | f | f <;> rw [e, f] <;> rfl
theorem ref_or2 (a : Int) {b : Int} : ref1 (tor a b) (tor a 2) = true := by
  unfold ref1
  rw [← tor_tv a b, ← tor_tv a 2]
  rcases tv_tri a with e | e | e <;> rcases tv_tri b with f | f | f <;> rw [e, f] <;> rfl
/-- The value of a gate, by the values of the gates before it. -/
def tAt (V : List Int) (x : Int) : Int := V.getD x.toNat 0
theorem t_get {V : List Int} {x : Int} {b : Int} (h : V[x.toNat]? = some b) : tAt V x = b := by
  unfold tAt
  rw [List.getD_eq_getElem?_getD, h]
  rfl
theorem t_app {V : List Int} {x : Int} (h0 : 0 ≤ x) (h : x < V.length) (T : List Int) : tAt (V ++ T) x = tAt V x := by
  unfold tAt
  rw [List.getD_eq_getElem?_getD, List.getD_eq_getElem?_getD, List.getElem?_append_left (by omega)]
/-- One step of a gate's fold: by its kind, the value so far, the next value. -/
def tstep (k v x : Int) : Int := if k = 4 then tand v x else if k = 5 then tor v x else if k = 6 then tnot x else v
def tfold (k : Int) (V : List Int) (v : Int) (l : List Int) : Int := l.foldl (fun v x => tstep k v (tAt V x)) v
theorem tfold_next (k : Int) (V : List Int) (v : Int) (l : List Int) {i : Nat} {x : Int} (h : l[i]? = some x) : tfold k V v (l.take (i + 1)) = tstep k (tfold k V v (l.take i)) (tAt V x) := by
  unfold tfold
  rw [List.take_add_one, h, List.foldl_append]
  rfl
theorem tfold_congr {k : Int} {V V' : List Int} : ∀ {l : List Int} (_ : ∀ x ∈ l, tAt V x = tAt V' x) (v : Int), tfold k V v l = tfold k V' v l
  | [], _, _ => rfl
  | x :: l, h, v => by
    show tfold k V (tstep k v (tAt V x)) l = tfold k V' (tstep k v (tAt V' x)) l
    rw [h x (List.mem_cons_self ..)]
    exact tfold_congr (fun y hy => h y (List.mem_cons_of_mem _ hy)) _
/-- What a gate begins with. -/
def tinit (bs is : List Int) (g : Gt) : Int := if g.1 = 2 then tv (tAt bs g.2.1) else if g.1 = 3 then tv (tAt is g.2.1) else if g.1 = 1 ∨ g.1 = 4 then 1 else 0
def tgN (bs is : List Int) (V : List Int) (g : Gt) : Int := tfold g.1 V (tinit bs is g) g.2.2
theorem t3_init (bs is : List Int) (g : Gt) : T3 (tinit bs is g) := by
  unfold tinit
  split
  · exact t3_tv _
  · split
    · exact t3_tv _
    · split
      · exact Or.inr (Or.inl rfl)
      · exact Or.inl rfl
theorem t3_step {k v x : Int} (h : T3 v) : T3 (tstep k v x) := by
  unfold tstep
  split
  · exact t3_and _ _
  · split
    · exact t3_or _ _
    · split
      · exact t3_not _
      · exact h
theorem t3_fold {k : Int} {V : List Int} : ∀ {l : List Int} {v : Int}, T3 v → T3 (tfold k V v l)
  | [], _, h => h
  | _ :: l, _, h => t3_fold (l := l) (t3_step h)
theorem t3_gate (bs is V : List Int) (g : Gt) : T3 (tgN bs is V g) := t3_fold (t3_init bs is g)
def tvalsFrom (bs is : List Int) : List Int → List Gt → List Int
  | V, [] => V
  | V, g :: l => tvalsFrom bs is (V ++ [tgN bs is V g]) l
def tvalsTo (bs is : List Int) (l : List Gt) (k : Nat) : List Int := tvalsFrom bs is [] (l.take k)
def tvalsN (bs is : List Int) (n : Nt) : List Int := tvalsFrom bs is [] n.gates
theorem tfrom_app (bs is : List Int) : ∀ (l r : List Gt) (V : List Int), tvalsFrom bs is V (l ++ r) = tvalsFrom bs is (tvalsFrom bs is V l) r
  | [], _, _ => rfl
  | _ :: l, r, _ => tfrom_app bs is l r _
theorem tfrom_len (bs is : List Int) : ∀ (l : List Gt) (V : List Int), (tvalsFrom bs is V l).length = V.length + l.length
  | [], _ => rfl
  | g :: l, V => by
    show (tvalsFrom bs is (V ++ [tgN bs is V g]) l).length = _
    rw [tfrom_len bs is l]
    simp
    omega
theorem tfrom_t3 (bs is : List Int) : ∀ (l : List Gt) (V : List Int), (∀ x ∈ V, T3 x) → ∀ x ∈ tvalsFrom bs is V l, T3 x
  | [], _, h => h
  | g :: l, V, h => tfrom_t3 bs is l _ fun x hx => by
    rcases List.mem_append.1 hx with k | k
    · exact h x k
    · rw [List.mem_singleton.1 k]
      exact t3_gate bs is V g
theorem tvals_t3 (bs is : List Int) (n : Nt) : ∀ x ∈ tvalsN bs is n, T3 x := tfrom_t3 bs is _ _ (by simp)
theorem tto_t3 (bs is : List Int) (l : List Gt) (k : Nat) : ∀ x ∈ tvalsTo bs is l k, T3 x := tfrom_t3 bs is _ _ (by simp)
theorem tvals_next (bs is : List Int) (l : List Gt) {k : Nat} {g : Gt} (h : l[k]? = some g) : tvalsTo bs is l (k + 1) = tvalsTo bs is l k ++ [tgN bs is (tvalsTo bs is l k) g] := by
  unfold tvalsTo
  rw [List.take_add_one, h, tfrom_app]
  rfl
theorem tvals_len (bs is : List Int) (l : List Gt) {k : Nat} (h : k ≤ l.length) : (tvalsTo bs is l k).length = k := by
  unfold tvalsTo
  rw [tfrom_len]
  simp
  omega
theorem tvals_all (bs is : List Int) (n : Nt) : tvalsTo bs is n.gates n.gates.length = tvalsN bs is n := by
  unfold tvalsTo tvalsN
  rw [List.take_length]
theorem tvalsn_len (bs is : List Int) (n : Nt) : (tvalsN bs is n).length = n.gates.length := by rw [← tvals_all, tvals_len _ _ _ (Nat.le_refl _)]
theorem tvals_pre (bs is : List Int) (l : List Gt) : ∀ (d k : Nat), k + d ≤ l.length → ∃ T, tvalsTo bs is l (k + d) = tvalsTo bs is l k ++ T
  | 0, k, _ => ⟨[], by simp⟩
  | d + 1, k, h => by
    obtain ⟨T, hT⟩ := tvals_pre bs is l d k (by omega)
    obtain ⟨g, hg⟩ : ∃ g, l[k + d]? = some g := ⟨l[k + d]'(by omega), by simp⟩
    refine ⟨T ++ [tgN bs is (tvalsTo bs is l (k + d)) g], ?_⟩
    rw [show k + (d + 1) = k + d + 1 by omega, tvals_next bs is l hg, ← List.append_assoc, ← hT]
theorem tg_congr {bs is V V' : List Int} {g : Gt} (h : ∀ x ∈ g.2.2, tAt V x = tAt V' x) : tgN bs is V g = tgN bs is V' g := tfold_congr h _
/-- The value of a gate of a valid network, among all values. -/
theorem tvals_at {n : Nt} (bs is : List Int) (hn : NOk n) {k : Nat} {g : Gt} (hg : n.gates[k]? = some g) : (tvalsN bs is n)[k]? = some (tgN bs is (tvalsN bs is n) g) := by
  have hk := (List.getElem?_eq_some_iff.1 hg).1
  obtain ⟨T, hT⟩ := tvals_pre bs is n.gates (n.gates.length - (k + 1)) (k + 1) (by omega)
  rw [show k + 1 + (n.gates.length - (k + 1)) = n.gates.length by omega, tvals_all] at hT
  have hl := tvals_len bs is n.gates (k := k) (by omega)
  have e1 : tvalsN bs is n = tvalsTo bs is n.gates k ++ (tgN bs is (tvalsTo bs is n.gates k) g :: T) := by rw [hT, tvals_next bs is n.gates hg]; simp
  have e2 : tgN bs is (tvalsN bs is n) g = tgN bs is (tvalsTo bs is n.gates k) g := by
    refine tg_congr (fun x hx => ?_)
    have := (hn.gate k g hg).rd x hx
    rw [e1]
    exact t_app this.1 (by omega) _
  rw [e2]
  rw [e1, List.getElem?_append_right (by omega), hl, Nat.sub_self]
  rfl
/-- The error of a three-valued evaluation. -/
def tvE (g : Tm → Bool) (bs is : List Int) (n : Nt) : Int :=
  if chkN g n ≠ 0 then 13 else if bs.length ≠ n.bases.length then 13 else if is.length ≠ n.inputs.length then 13 else 0
def tvV (g : Tm → Bool) (bs is : List Int) (n : Nt) : List Int := if tvE g bs is n = 0 then tvalsN bs is n else []
theorem te_net {g : Tm → Bool} {bs is : List Int} {n : Nt} (h : chkN g n ≠ 0) : tvE g bs is n = 13 := by unfold tvE; rw [if_pos h]
theorem te_bs {g : Tm → Bool} {bs is : List Int} {n : Nt} (h : chkN g n = 0) (h2 : bs.length ≠ n.bases.length) : tvE g bs is n = 13 := by unfold tvE; rw [if_neg (by simpa using h), if_pos h2]
theorem te_is {g : Tm → Bool} {bs is : List Int} {n : Nt} (h : chkN g n = 0) (h2 : bs.length = n.bases.length) (h3 : is.length ≠ n.inputs.length) : tvE g bs is n = 13 := by unfold tvE; rw [if_neg (by simpa using h), if_neg (by simpa using h2), if_pos h3]
theorem te_ok {g : Tm → Bool} {bs is : List Int} {n : Nt} (h : chkN g n = 0) (h2 : bs.length = n.bases.length) (h3 : is.length = n.inputs.length) : tvE g bs is n = 0 := by unfold tvE; rw [if_neg (by simpa using h), if_neg (by simpa using h2), if_neg (by simpa using h3)]
theorem tvv_ok {g : Tm → Bool} {bs is : List Int} {n : Nt} (h : tvE g bs is n = 0) : tvV g bs is n = tvalsN bs is n := by unfold tvV; rw [if_pos h]
theorem tvv_no {g : Tm → Bool} {bs is : List Int} {n : Nt} (h : tvE g bs is n = 13) : tvV g bs is n = [] := by unfold tvV; rw [if_neg (by rw [h]; decide)]
/-- Marks of numbers. -/
def tset (l : List Int) (c : Int) (x : Int) : List Int := if 0 ≤ x ∧ x < l.length then l.set x.toNat c else l
def knownL (m : Nat) (st : List Int) : List Int := st.foldl (fun l x => tset l 1 x) (List.replicate m 0)
theorem tset_len (l : List Int) (c x : Int) : (tset l c x).length = l.length := by
  unfold tset
  split
  · simp
  · rfl
def tsetL (l : List Int) (c : Int) (st : List Int) : List Int := st.foldl (fun l x => tset l c x) l
theorem tsetl_len (c : Int) : ∀ (st l : List Int), (tsetL l c st).length = l.length
  | [], _ => rfl
  | x :: st, l => by
    show (tsetL (tset l c x) c st).length = _
    rw [tsetl_len c st, tset_len]
theorem tsetl_next (l : List Int) (c : Int) (st : List Int) {i : Nat} {x : Int} (h : st[i]? = some x) : tsetL l c (st.take (i + 1)) = tset (tsetL l c (st.take i)) c x := by
  unfold tsetL
  rw [List.take_add_one, h, List.foldl_append]
  rfl
theorem tset_t3 {l : List Int} {c x : Int} (hc : T3 c) (h : ∀ y ∈ l, T3 y) : ∀ y ∈ tset l c x, T3 y := by
  unfold tset
  split
  · intro y hy
    rcases List.mem_or_eq_of_mem_set hy with k | k
    · exact h y k
    · rw [k]
      exact hc
  · exact h
theorem tsetl_t3 {c : Int} (hc : T3 c) : ∀ (st l : List Int), (∀ y ∈ l, T3 y) → ∀ y ∈ tsetL l c st, T3 y
  | [], _, h => h
  | _ :: st, _, h => tsetl_t3 hc st _ (tset_t3 hc h)
theorem tsetl_get (c : Int) : ∀ (st l : List Int) (j : Nat), (tsetL l c st)[j]? = l[j]?.map fun b => if (j : Int) ∈ st then c else b
  | [], l, j => by
    show l[j]? = _
    cases l[j]? <;> simp
  | x :: st, l, j => by
    show (tsetL (tset l c x) c st)[j]? = _
    rw [tsetl_get c st]
    unfold tset
    by_cases hx : 0 ≤ x ∧ x < l.length
    · rw [if_pos hx, List.getElem?_set]
      by_cases e : x.toNat = j
      · subst e
        rw [if_pos rfl, if_pos (by omega), List.getElem?_eq_getElem (by omega)]
        have hm : ((x.toNat : Nat) : Int) = x := by omega
        simp [hm]
      · rw [if_neg e]
        have hm : ¬ (j : Int) = x := by omega
        cases l[j]? with
        | none => rfl
        | some b => simp [hm]
    · rw [if_neg hx]
      cases hl : l[j]? with
      | none => rfl
      | some b =>
        have hj := (List.getElem?_eq_some_iff.1 hl).1
        have hm : ¬ (j : Int) = x := by omega
        simp [hm]
/-- The three-valued bases of a state, or nothing. -/
def knN (g : Tm → Bool) (st : List Int) (n : Nt) : List Int := if chkN g n ≠ 0 then [] else tsetL (List.replicate n.bases.length 0) 1 st
end NetTn
end Go.Proofs.YtgbbpliihglijaaGreat
