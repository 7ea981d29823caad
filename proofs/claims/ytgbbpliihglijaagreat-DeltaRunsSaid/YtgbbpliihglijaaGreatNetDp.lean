/- delta's engine as plain data: what an update does to the values, the numbers of true gates, the marks and the counts. Conditions: a valid network. -/
import Derived.Test.YtgbbpliihglijaaGreatNetDc
import Derived.Test.YtgbbpliihglijaaGreatGBD
import Derived.Test.YtgbbpliihglijaaGreatNetTn
namespace Go.Proofs.YtgbbpliihglijaaGreat
open Go
namespace NetDp
open LexM TermM NetM NetN NetMk NetOk NetEv NetDg NetDr NetDc NetTn
def kdL (n : Nt) : List (Int × Int × Int) := n.gates.map fun g => (g.1, g.2.1, (g.2.2.length : Int))
def trL (V : List Bool) (n : Nt) : List Int := n.gates.map fun g => (trN V g.2.2 : Int)
def rdN (n : Nt) (j : Nat) : List Int := readBy j 0 n.gates
theorem kd_len (n : Nt) : (kdL n).length = n.gates.length := by unfold kdL; simp
theorem tr_len (V : List Bool) (n : Nt) : (trL V n).length = n.gates.length := by unfold trL; simp
theorem kd_get {n : Nt} {i : Nat} {g : Gt} (h : n.gates[i]? = some g) : (kdL n)[i]? = some (g.1, g.2.1, (g.2.2.length : Int)) := by unfold kdL; rw [List.getElem?_map, h]; rfl
theorem tr_get {V : List Bool} {n : Nt} {i : Nat} {g : Gt} (h : n.gates[i]? = some g) : (trL V n)[i]? = some (trN V g.2.2 : Int) := by unfold trL; rw [List.getElem?_map, h]; rfl
/-! ### Readers -/
theorem readby_ge {j : Nat} {x : Int} : ∀ {l : List Gt} {i : Nat}, x ∈ readBy j i l → (i : Int) ≤ x := fun {l i} h => by
  obtain ⟨k, _, _, _, e⟩ := readby_mem.1 h
  omega
theorem readby_nodup (j : Nat) : ∀ (l : List Gt) (i : Nat), (readBy j i l).Nodup
  | [], _ => List.nodup_nil
  | g :: l, i => by
    rw [readby_cons]
    by_cases e : (j : Int) ∈ g.2.2
    · rw [if_pos e, List.nodup_cons]
      exact ⟨fun h => by have := readby_ge h; omega, readby_nodup j l (i + 1)⟩
    · rw [if_neg e]
      exact readby_nodup j l (i + 1)
theorem rd_mem {n : Nt} {j r : Nat} {g : Gt} (hg : n.gates[r]? = some g) : (r : Int) ∈ rdN n j ↔ (j : Int) ∈ g.2.2 := by
  unfold rdN
  rw [readby_mem]
  constructor
  · rintro ⟨k, g', h1, h2, h3⟩
    obtain rfl : r = k := by omega
    rw [hg] at h1
    rw [Option.some.inj h1]
    exact h2
  · intro h
    exact ⟨r, g, hg, h, by simp⟩
theorem rd_range {n : Nt} {j : Nat} {x : Int} (h : x ∈ rdN n j) : 0 ≤ x ∧ x < (n.gates.length : Int) := by
  obtain ⟨k, g, h1, _, h3⟩ := readby_mem.1 h
  have := (List.getElem?_eq_some_iff.1 h1).1
  omega
theorem nums_pw {l : List Int} {m : Int} (h : numsB l m = true) : l.Pairwise (· < ·) := by
  have h1 := alln_true.1 h
  have step : ∀ j, j + 1 < l.length → at0 l j < at0 l (j + 1) := fun j hj => by
    have := h1 (j + 1) hj
    unfold numAt at this
    rw [Bool.and_eq_true, Bool.or_eq_true, decide_eq_true_eq, decide_eq_true_eq, Nat.add_sub_cancel] at this
    rcases this.2 with h2 | h2
    · omega
    · exact h2
  have far : ∀ d i, i + d + 1 < l.length → at0 l i < at0 l (i + d + 1) := fun d => by
    induction d with
    | zero => exact fun i hi => step i hi
    | succ d ih =>
      intro i hi
      have a := ih i (by omega)
      have b := step (i + d + 1) (by omega)
      rw [show i + (d + 1) + 1 = i + d + 1 + 1 by omega]
      omega
  rw [List.pairwise_iff_getElem]
  intro i j hi hj hij
  have h2 := far (j - i - 1) i (by omega)
  rw [show i + (j - i - 1) + 1 = j by omega, at_get (List.getElem?_eq_getElem hi), at_get (List.getElem?_eq_getElem hj)] at h2
  exact h2
theorem nums_nodup {l : List Int} {m : Int} (h : numsB l m = true) : l.Nodup := (nums_pw h).imp fun h e => by omega
/-- What a gate of a valid network reads are different numbers. -/
theorem lin_nodup {f : Tm → Bool} {n : Nt} (h : chkN f n = 0) {k : Nat} {g : Gt} (hg : n.gates[k]? = some g) : g.2.2.Nodup := by
  unfold chkN at h
  by_cases h1 : 16384 < n.gates.length
  · rw [if_pos h1] at h
    exact absurd h (by decide)
  rw [if_neg h1] at h
  by_cases h2 : gatesE n 0 n.gates = 0
  · have h3 := gates_all h2 k g hg
    rw [Nat.zero_add] at h3
    unfold gateE at h3
    split at h3
    · exact absurd h3 (by decide)
    · split at h3
      · exact absurd h3 (by decide)
      · split at h3
        · exact absurd h3 (by decide)
        · split at h3
          · exact absurd h3 (by decide)
          · rename_i h4
            exact nums_nodup (m := k) (by simpa using h4)
  · rw [if_pos h2] at h
    exact absurd h h2
/-- A network whose gates read different numbers. -/
structure DOk (n : Nt) : Prop where
  ok : NOk n
  nd : ∀ (k : Nat) (g : Gt), n.gates[k]? = some g → g.2.2.Nodup
theorem dok {f : Tm → Bool} {n : Nt} (h : chkN f n = 0) : DOk n := ⟨nok h, fun _ _ hg => lin_nodup h hg⟩
theorem dok_all {n : Nt} (h : DOk n) : ∀ g ∈ n.gates, g.2.2.Nodup ∧ ∀ x ∈ g.2.2, 0 ≤ x := fun g hg => by
  obtain ⟨k, hk⟩ := List.mem_iff_getElem?.1 hg
  exact ⟨h.nd k g hk, fun x hx => ((h.ok.gate k g hk).rd x hx).1⟩
/-! ### One gate changes -/
def tAdd (s : Int) (T : List Int) (x : Int) : List Int := T.set x.toNat (tAt T x + s)
def tAddL (s : Int) (T : List Int) (rd : List Int) : List Int := rd.foldl (tAdd s) T
theorem tadd_len (s : Int) (T : List Int) (x : Int) : (tAdd s T x).length = T.length := by unfold tAdd; simp
theorem taddl_len (s : Int) : ∀ (rd T : List Int), (tAddL s T rd).length = T.length
  | [], _ => rfl
  | x :: rd, T => by
    show (tAddL s (tAdd s T x) rd).length = _
    rw [taddl_len s rd, tadd_len]
theorem taddl_next (s : Int) (T rd : List Int) {k : Nat} {x : Int} (h : rd[k]? = some x) : tAddL s T (rd.take (k + 1)) = tAdd s (tAddL s T (rd.take k)) x := by
  unfold tAddL
  rw [List.take_add_one, h, List.foldl_append]
  rfl
theorem taddl_get (s : Int) : ∀ (rd T : List Int) (j : Nat), rd.Nodup → (∀ x ∈ rd, 0 ≤ x) → (tAddL s T rd)[j]? = T[j]?.map fun t => if (j : Int) ∈ rd then t + s else t
  | [], T, j, _, _ => by
    show T[j]? = _
    cases T[j]? <;> simp
  | x :: rd, T, j, hd, h0 => by
    have hd2 := List.nodup_cons.1 hd
    have hx := h0 x (List.mem_cons_self ..)
    show (tAddL s (tAdd s T x) rd)[j]? = _
    rw [taddl_get s rd _ j hd2.2 (fun y hy => h0 y (List.mem_cons_of_mem _ hy))]
    unfold tAdd
    rw [List.getElem?_set]
    by_cases e : x = (j : Int)
    · subst e
      rw [Int.toNat_natCast, if_pos rfl]
      by_cases hj : j < T.length
      · have e1 : T[j]? = some T[j] := List.getElem?_eq_getElem hj
        have e2 : tAt T (j : Int) = T[j] := t_get (by rw [Int.toNat_natCast]; exact e1)
        rw [if_pos hj, e1, e2]
        simp [hd2.1]
      · rw [if_neg hj, List.getElem?_eq_none (by omega)]
        rfl
    · rw [if_neg (by omega)]
      cases T[j]? with
      | none => rfl
      | some t =>
        have : ¬ (j : Int) = x := fun h => e h.symm
        simp [this]
/-- The numbers of true gates after one gate has taken its other value. -/
theorem tr_change {n : Nt} (h : DOk n) {V : List Bool} {j : Nat} {b : Bool} (hl : V.length = n.gates.length) (hj : j < n.gates.length) (hv : V[j]? = some (!b)) : trL (V.set j b) n = tAddL (if b then 1 else -1) (trL V n) (rdN n j) := by
  refine List.ext_getElem? fun r => ?_
  rw [taddl_get _ (rdN n j) _ _ (readby_nodup _ _ _) (fun x hx => (rd_range hx).1)]
  cases hr : n.gates[r]? with
  | none =>
    have hr2 := List.getElem?_eq_none_iff.1 hr
    rw [List.getElem?_eq_none (by rw [tr_len]; exact hr2), List.getElem?_eq_none (by rw [tr_len]; exact hr2)]
    rfl
  | some g =>
    rw [tr_get hr, tr_get hr, Option.map_some]
    congr 1
    have hn := fun x hx => ((h.ok.gate r g hr).rd x hx).1
    by_cases e : (j : Int) ∈ g.2.2
    · rw [if_pos ((rd_mem hr).2 e)]
      exact tr_in (by omega) hn (h.nd r g hr) e (v_get (by rw [Int.toNat_natCast]; exact hv))
    · rw [if_neg (fun h => e ((rd_mem hr).1 h)), tr_out (by omega) hn e]
/-! ### The update -/
def mixL (A B : List Bool) (i : Nat) : List Bool := B.take i ++ A.drop i
theorem mix_zero (A B : List Bool) : mixL A B 0 = A := by unfold mixL; simp
theorem mix_len {A B : List Bool} {m : Nat} (ha : A.length = m) (hb : B.length = m) {i : Nat} (hi : i ≤ m) : (mixL A B i).length = m := by
  unfold mixL
  simp
  omega
theorem mix_all {A B : List Bool} {m : Nat} (ha : A.length = m) (hb : B.length = m) : mixL A B m = B := by
  unfold mixL
  rw [List.take_of_length_le (by omega), List.drop_eq_nil_of_le (by omega), List.append_nil]
theorem mix_get {A B : List Bool} {m : Nat} (_ : A.length = m) (hb : B.length = m) {i : Nat} (hi : i ≤ m) (j : Nat) : (mixL A B i)[j]? = if j < i then B[j]? else A[j]? := by
  unfold mixL
  by_cases h : j < i
  · rw [if_pos h, List.getElem?_append_left (by rw [List.length_take]; omega), List.getElem?_take, if_pos h]
  · rw [if_neg h, List.getElem?_append_right (by rw [List.length_take]; omega), List.length_take, List.getElem?_drop]
    congr 1
    omega
theorem mix_next {A B : List Bool} {m : Nat} (ha : A.length = m) (hb : B.length = m) {i : Nat} (hi : i < m) {b : Bool} (h : B[i]? = some b) : mixL A B (i + 1) = (mixL A B i).set i b := by
  refine List.ext_getElem? fun j => ?_
  rw [mix_get ha hb (by omega), List.getElem?_set, mix_get ha hb (by omega), mix_len ha hb (by omega)]
  by_cases e : i = j
  · subst e
    rw [if_pos (by omega), if_pos rfl, if_pos hi, h]
  · rw [if_neg e]
    by_cases h2 : j < i
    · rw [if_pos h2, if_pos (by omega)]
    · rw [if_neg h2, if_neg (by omega)]
theorem mix_same {A B : List Bool} {m : Nat} (ha : A.length = m) (hb : B.length = m) {i : Nat} (hi : i < m) (h : A[i]? = B[i]?) : mixL A B (i + 1) = mixL A B i := by
  refine List.ext_getElem? fun j => ?_
  rw [mix_get ha hb (by omega), mix_get ha hb (by omega)]
  by_cases e : i = j
  · subst e
    rw [if_pos (by omega), if_neg (by omega), h]
  · by_cases h2 : j < i
    · rw [if_pos h2, if_pos (by omega)]
    · rw [if_neg h2, if_neg (by omega)]
def dif (A B : List Bool) (x : Int) : Bool := vAt A x != vAt B x
/-- Whether a gate reads one that differs. -/
def rdsB (A B : List Bool) (g : Gt) : Bool := g.2.2.any (dif A B)
/-- The marks before gate i. -/
def rcL (A B : List Bool) (n : Nt) (i : Nat) : List Bool := n.gates.map fun g => g.2.2.any fun x => decide (x < (i : Int)) && dif A B x
theorem rc_len (A B : List Bool) (n : Nt) (i : Nat) : (rcL A B n i).length = n.gates.length := by unfold rcL; simp
theorem rc_zero {n : Nt} (h : NOk n) (A B : List Bool) : rcL A B n 0 = List.replicate n.gates.length false := by
  refine List.ext_getElem? fun j => ?_
  unfold rcL
  rw [List.getElem?_map, List.getElem?_replicate]
  cases hg : n.gates[j]? with
  | none => rw [if_neg (by have := List.getElem?_eq_none_iff.1 hg; omega)]; rfl
  | some g =>
    rw [if_pos (List.getElem?_eq_some_iff.1 hg).1, Option.map_some]
    congr 1
    rw [List.any_eq_false]
    intro x hx
    have := ((h.gate j g hg).rd x hx).1
    rw [decide_eq_false (by omega)]
    simp
theorem rc_at {n : Nt} (h : NOk n) (A B : List Bool) {i : Nat} {g : Gt} (hg : n.gates[i]? = some g) : (rcL A B n i)[i]? = some (rdsB A B g) := by
  unfold rcL rdsB
  rw [List.getElem?_map, hg, Option.map_some]
  congr 1
  rw [Bool.eq_iff_iff, List.any_eq_true, List.any_eq_true]
  constructor
  · rintro ⟨x, hx, hp⟩
    rw [Bool.and_eq_true] at hp
    exact ⟨x, hx, hp.2⟩
  · rintro ⟨x, hx, hp⟩
    exact ⟨x, hx, by rw [hp, decide_eq_true ((h.gate i g hg).rd x hx).2]; rfl⟩
theorem rc_same {n : Nt} {A B : List Bool} {i : Nat} (h : dif A B (i : Int) = false) : rcL A B n (i + 1) = rcL A B n i := by
  unfold rcL
  refine List.map_congr_left fun g _ => ?_
  congr 1
  funext x
  by_cases e : x = (i : Int)
  · subst e
    rw [h]
    simp
  · congr 1
    rw [Bool.eq_iff_iff, decide_eq_true_eq, decide_eq_true_eq]
    omega
theorem rc_next {n : Nt} {A B : List Bool} {i : Nat} (h : dif A B (i : Int) = true) : rcL A B n (i + 1) = markL (rcL A B n i) (rdN n i) := by
  refine List.ext_getElem? fun j => ?_
  rw [mark_get]
  cases hg : n.gates[j]? with
  | none =>
    have hj := List.getElem?_eq_none_iff.1 hg
    rw [List.getElem?_eq_none (by rw [rc_len]; exact hj), List.getElem?_eq_none (by rw [rc_len]; exact hj)]
    rfl
  | some g =>
    unfold rcL
    rw [List.getElem?_map, List.getElem?_map, hg, Option.map_some, Option.map_some, Option.map_some]
    congr 1
    rw [Bool.eq_iff_iff, Bool.or_eq_true, List.any_eq_true, List.any_eq_true, List.any_eq_true]
    constructor
    · rintro ⟨x, hx, hp⟩
      rw [Bool.and_eq_true, decide_eq_true_eq] at hp
      by_cases e : x = (i : Int)
      · subst e
        exact Or.inr ⟨(j : Int), (rd_mem hg).2 hx, by simp⟩
      · exact Or.inl ⟨x, hx, by rw [Bool.and_eq_true, decide_eq_true_eq]; exact ⟨by omega, hp.2⟩⟩
    · rintro (⟨x, hx, hp⟩ | ⟨x, hx, hp⟩)
      · rw [Bool.and_eq_true, decide_eq_true_eq] at hp
        exact ⟨x, hx, by rw [Bool.and_eq_true, decide_eq_true_eq]; exact ⟨by omega, hp.2⟩⟩
      · rw [decide_eq_true_eq] at hp
        have h0 := (rd_range hx).1
        obtain rfl : x = (j : Int) := by omega
        exact ⟨(i : Int), (rd_mem hg).1 hx, by rw [Bool.and_eq_true, decide_eq_true_eq]; exact ⟨by omega, h⟩⟩
/-- How many of the first gates satisfy a test. -/
def cntP (p : Nat → Bool) (i : Nat) : Nat := ((List.range i).filter p).length
theorem cntp_yes {p : Nat → Bool} {i : Nat} (h : p i = true) : cntP p (i + 1) = cntP p i + 1 := by
  unfold cntP
  rw [List.range_succ, List.filter_append, List.length_append, List.filter_cons_of_pos h]
  rfl
theorem cntp_no {p : Nat → Bool} {i : Nat} (h : p i = false) : cntP p (i + 1) = cntP p i := by
  unfold cntP
  rw [List.range_succ, List.filter_append, List.length_append, List.filter_cons_of_neg (by rw [h]; decide)]
  rfl
theorem cntp_le (p : Nat → Bool) (i : Nat) : cntP p i ≤ i := by
  unfold cntP
  exact Nat.le_trans (List.length_filter_le _ _) (by simp)
def chN (A B : List Bool) (i : Nat) : Nat := cntP (fun j => dif A B (j : Int)) i
def rdAt (A B : List Bool) (n : Nt) (j : Nat) : Bool := match n.gates[j]? with | some g => rdsB A B g | none => false
def wkN (A B : List Bool) (n : Nt) (i : Nat) : Nat := cntP (rdAt A B n) i
theorem rdat_get {A B : List Bool} {n : Nt} {i : Nat} {g : Gt} (h : n.gates[i]? = some g) : rdAt A B n i = rdsB A B g := by unfold rdAt; rw [h]
/-! ### What a gate's value becomes -/
theorem vals_next_at {n : Nt} (st ip : List Int) (h : NOk n) {i : Nat} {g : Gt} (hg : n.gates[i]? = some g) {b : Bool} (e : gvN st ip (valsN st ip n) g = b) : (valsN st ip n)[i]? = some b := by rw [vals_at st ip h hg, e]
theorem nv_2 {n : Nt} {st ip : List Int} (h : NOk n) {i : Nat} {g : Gt} (hg : n.gates[i]? = some g) (k : g.1 = 2) : (valsN st ip n)[i]? = some (decide (g.2.1 ∈ st)) := vals_next_at st ip h hg (by unfold gvN; rw [if_pos k])
theorem nv_3 {n : Nt} {st ip : List Int} (h : NOk n) {i : Nat} {g : Gt} (hg : n.gates[i]? = some g) (k : g.1 = 3) : (valsN st ip n)[i]? = some (decide (g.2.1 ∈ ip)) := vals_next_at st ip h hg (by unfold gvN; rw [if_neg (by omega), if_pos k])
/-- A gate that reads one that differs is a conjunction, a disjunction or a negation; its value comes of the number of true gates that it reads. -/
theorem rds_kind {n : Nt} {A B : List Bool} {i : Nat} {g : Gt} (ok : GOk n i g) (h : rdsB A B g = true) : 4 ≤ g.1 ∧ g.1 < 7 := by
  refine ⟨?_, ok.k7⟩
  apply Decidable.byContradiction
  intro hn
  have en := ok.en
  unfold readsB at en
  rw [if_neg (by omega), if_neg (by omega), decide_eq_true_eq] at en
  have e := List.eq_nil_of_length_eq_zero en
  unfold rdsB at h
  rw [e] at h
  cases h
theorem nv_rd {n : Nt} {st ip : List Int} {A : List Bool} (h : NOk n) {i : Nat} {g : Gt} (hg : n.gates[i]? = some g) (ha : A.length = n.gates.length) (hr : rdsB A (valsN st ip n) g = true) : (valsN st ip n)[i]? = some (gvB g.1 g.2.2.length (trN (mixL A (valsN st ip n) i) g.2.2)) := by
  have ok := h.gate i g hg
  have hi := (List.getElem?_eq_some_iff.1 hg).1
  obtain ⟨h4, h7⟩ := rds_kind ok hr
  refine vals_next_at st ip h hg ?_
  rw [← gv_tr (st := st) (ip := ip) (V := mixL A (valsN st ip n) i) (g := g) h4 h7 (fun e => GOk.one ok e)]
  refine gv_congr (fun x hx => ?_) (fun e => GOk.one ok e)
  have hx2 := ok.rd x hx
  unfold vAt
  rw [List.getD_eq_getElem?_getD, List.getD_eq_getElem?_getD, mix_get ha (valsn_len st ip n) (by omega), if_pos (by omega)]
theorem nv_no {n : Nt} {st ip st' ip' : List Int} (h : NOk n) {i : Nat} {g : Gt} (hg : n.gates[i]? = some g) (k2 : g.1 ≠ 2) (k3 : g.1 ≠ 3) (hr : rdsB (valsN st ip n) (valsN st' ip' n) g = false) : (valsN st' ip' n)[i]? = (valsN st ip n)[i]? := by
  have ok := h.gate i g hg
  rw [vals_at st ip h hg, vals_at st' ip' h hg]
  congr 1
  have e1 : gvN st' ip' (valsN st' ip' n) g = gvN st' ip' (valsN st ip n) g := by
    refine gv_congr (fun x hx => ?_) (fun e => GOk.one ok e)
    unfold rdsB at hr
    have := List.any_eq_false.1 hr x hx
    unfold dif at this
    rw [bne_iff_ne, ne_eq, Decidable.not_not] at this
    exact this.symm
  rw [e1]
  unfold gvN
  rw [if_neg k2, if_neg k3, if_neg k2, if_neg k3]
end NetDp
end Go.Proofs.YtgbbpliihglijaaGreat
