/- Texts laid together: NorR; NorS; UniR; LigQ; LigW. Their own heads stand before each. -/
import Derived.Test.YtdkpflojdnkbnaaGreatDoorHAK
import Derived.Test.YtdkpflojdnkbnaaGreatDoorHAF
import Derived.Test.YtdkpflojdnkbnaaGreatDoorHAG
import Derived.Test.YtdkpflojdnkbnaaGreatDoorHAJ
import Derived.Deep.AppendLies
import Derived.Deep.DeepCutAuto
import Derived.BigQuiet
import Derived.OwnWalk
import Derived.Laws.OwnMore
import Derived.Test.YtdkpflojdnkbnaaGreatDoorHAM
/- Normal forms as the least of a list: what the code and the reference compute. No conditions. -/
namespace Go.Proofs.YtdkpflojdnkbnaaGreatDoor
open Go
namespace NorR
open LexM TermM UniM UniK UniD UniE NorM NorP NorQ
/-! ### Arranged bodies -/
def insL (x : Lt) : List Lt → List Lt
  | [] => [x]
  | y :: l => if cmpLt x y < 0 then x :: y :: l else if cmpLt x y = 0 then y :: l else y :: insL x l
def arrL (l : List Lt) : List Lt := l.foldl (fun a x => insL x a) []
theorem ins_mem (x : Lt) : ∀ (l : List Lt) (y : Lt), y ∈ insL x l ↔ y = x ∨ y ∈ l
  | [], y => by simp [insL]
  | z :: l, y => by
    unfold insL
    split
    · simp
    · split
      · rename_i h
        have := (lt_zero x z).1 h
        subst this
        simp
      · simp only [List.mem_cons, ins_mem x l y]
        constructor
        · rintro (h | h | h)
          · exact Or.inr (Or.inl h)
          · exact Or.inl h
          · exact Or.inr (Or.inr h)
        · rintro (h | h | h)
          · exact Or.inr (Or.inl h)
          · exact Or.inl h
          · exact Or.inr (Or.inr h)
theorem ins_asc (x : Lt) : ∀ (l : List Lt), Asc cmpLt l → Asc cmpLt (insL x l)
  | [], _ => by simp [insL, Asc]
  | z :: l, h => by
    have hh := asc_head h
    have ht := asc_tail h
    unfold insL
    split
    · rename_i hx
      refine List.pairwise_cons.2 ⟨fun y hy => ?_, h⟩
      rcases List.mem_cons.1 hy with rfl | hy
      · exact hx
      · have h1 := hh y hy
        have h2 := tri_lt x z y
        unfold Tri at h2
        omega
    · split
      · exact h
      · rename_i h1 h2
        refine List.pairwise_cons.2 ⟨fun y hy => ?_, ins_asc x l ht⟩
        rcases (ins_mem x l y).1 hy with rfl | hy
        · have := lt_neg y z
          omega
        · exact hh y hy
theorem arr_gen : ∀ (l a : List Lt), Asc cmpLt a → Asc cmpLt (l.foldl (fun a x => insL x a) a) ∧ ∀ y, y ∈ l.foldl (fun a x => insL x a) a ↔ y ∈ a ∨ y ∈ l
  | [], a, h => ⟨h, fun y => by simp⟩
  | x :: l, a, h => by
    obtain ⟨h1, h2⟩ := arr_gen l (insL x a) (ins_asc x a h)
    refine ⟨h1, fun y => ?_⟩
    rw [List.foldl_cons, h2, ins_mem, List.mem_cons]
    constructor
    · rintro ((h | h) | h)
      · exact Or.inr (Or.inl h)
      · exact Or.inl h
      · exact Or.inr (Or.inr h)
    · rintro (h | h | h)
      · exact Or.inl (Or.inr h)
      · exact Or.inl (Or.inl h)
      · exact Or.inr h
theorem arr_asc (l : List Lt) : Asc cmpLt (arrL l) := (arr_gen l [] List.Pairwise.nil).1
theorem arr_mem (l : List Lt) (y : Lt) : y ∈ arrL l ↔ y ∈ l := by
  rw [show (y ∈ arrL l ↔ y ∈ ([] : List Lt) ∨ y ∈ l) from (arr_gen l [] List.Pairwise.nil).2 y]
  simp
/-- What is ascending and has the same members is the arranged body. -/
theorem arr_eq {l m : List Lt} (h : Asc cmpLt m) (hm : ∀ y, y ∈ m ↔ y ∈ l) : m = arrL l := asc_unique lt_neg lt_zero h (arr_asc l) fun y => (hm y).trans (arr_mem l y).symm
/-! ### Renamings as bindings -/
theorem look_zip : ∀ {V : List ByteArray} {u : List Tm}, V.Nodup → u.length = V.length → ∀ (i : Nat) (v : ByteArray), V[i]? = some v → lookS (V.zip u) v = u[i]?
  | [], _, _, _, i, v, h => by simp at h
  | a :: V, [], _, hl, _, _, _ => by simp at hl
  | a :: V, t :: u, hn, hl, 0, v, h => by
    simp at h
    subst h
    simp [lookS, eqB]
  | a :: V, t :: u, hn, hl, i + 1, v, h => by
    obtain ⟨h1, h2⟩ := List.nodup_cons.1 hn
    have hv : V[i]? = some v := by simpa using h
    have ih := look_zip h2 (by simpa using hl) i v hv
    have hne : eqB a v = false := by
      rw [Bool.eq_false_iff]
      intro e
      rw [eqB_iff] at e
      subst e
      exact h1 (List.mem_of_getElem? hv)
    unfold lookS at ih ⊢
    rw [List.zip_cons_cons, List.find?_cons, hne]
    simpa using ih
theorem look_out {V : List ByteArray} {u : List Tm} {v : ByteArray} (h : v ∉ V) : lookS (V.zip u) v = none := by
  unfold lookS
  rw [List.find?_eq_none.2 (fun b hb e => by
    rw [eqB_iff] at e
    have := (List.of_mem_zip hb).1
    rw [e] at this
    exact h this)]
  rfl
theorem zip_map {V : List ByteArray} {u : List Tm} (hn : V.Nodup) (hl : u.length = V.length) : V.map (leafS (V.zip u)) = u := by
  apply List.ext_getElem?
  intro i
  rw [List.getElem?_map]
  by_cases hi : i < V.length
  · obtain ⟨v, hv⟩ : ∃ v, V[i]? = some v := ⟨V[i], by simp⟩
    have := look_zip hn hl i v hv
    rw [hv, List.getElem?_eq_getElem (by omega : i < u.length)] at *
    simp [leafS, this]
  · rw [List.getElem?_eq_none (by omega), List.getElem?_eq_none (by omega)]
    rfl
theorem vts_len (n : Nat) : (vTs n).length = n := by simp [vTs]
theorem zip_ren {V : List ByteArray} {u : List Tm} (hn : V.Nodup) (hu : u.Perm (vTs V.length)) : IsRen V (leafS (V.zip u)) := by
  have hl : u.length = V.length := by rw [hu.length_eq, vts_len]
  refine ⟨by rw [zip_map hn hl]; exact hu, fun m hm => ?_⟩
  unfold leafS
  rw [look_out hm]
  rfl
theorem ren_zip {V : List ByteArray} {φ : ByteArray → Tm} (hn : V.Nodup) (h : IsRen V φ) : φ = leafS (V.zip (V.map φ)) := by
  funext m
  by_cases hm : m ∈ V
  · obtain ⟨i, hi⟩ := List.mem_iff_getElem?.1 hm
    have := look_zip (u := V.map φ) hn (by simp) i m hi
    unfold leafS
    rw [this, List.getElem?_map, hi]
    rfl
  · rw [h.2 m hm]
    unfold leafS
    rw [look_out hm]
    rfl
/-- The rule for one list of terms that stand for the variables. -/
def cnd (V : List ByteArray) (r : Rl) (u : List Tm) : Rl := (appT (V.zip u) r.1, arrL (r.2.map fun x => (x.1, appT (V.zip u) x.2)))
/-- The least of some rules. -/
def LeastOf (xs : List Rl) (x : Rl) : Prop := x ∈ xs ∧ ∀ y ∈ xs, cmpR x y ≤ 0
theorem least_snoc {xs : List Rl} {x y : Rl} (h : LeastOf xs x) : (cmpR y x < 0 → LeastOf (xs ++ [y]) y) ∧ (¬ cmpR y x < 0 → LeastOf (xs ++ [y]) x) := by
  refine ⟨fun hlt => ⟨by simp, fun z hz => ?_⟩, fun hge => ⟨by simp [h.1], fun z hz => ?_⟩⟩
  · rcases List.mem_append.1 hz with hz | hz
    · have h1 := h.2 z hz
      have h2 := tri_r y x z
      unfold Tri at h2
      omega
    · obtain rfl := List.mem_singleton.1 hz
      have := (r_zero z z).2 rfl
      omega
  · rcases List.mem_append.1 hz with hz | hz
    · exact h.2 z hz
    · obtain rfl := List.mem_singleton.1 hz
      have := r_neg x z
      omega
theorem cand_iff {V : List ByteArray} {r : Rl} (hn : V.Nodup) {x : Rl} : Cand V r x ↔ ∃ u : List Tm, u.Perm (vTs V.length) ∧ x = cnd V r u := by
  constructor
  · rintro ⟨φ, h1, h2, h3, h4⟩
    have e := ren_zip hn h1
    refine ⟨V.map φ, h1.1, Prod.ext ?_ ?_⟩
    · rw [h2]
      show repT φ r.1 = appT (V.zip (V.map φ)) r.1
      rw [← rep_app, ← e]
    · refine arr_eq h3 fun y => (h4 y).trans ?_
      rw [List.mem_map]
      constructor
      · rintro ⟨z, hz, rfl⟩
        exact ⟨z, hz, by rw [← rep_app, ← e]⟩
      · rintro ⟨z, hz, rfl⟩
        exact ⟨z, hz, by rw [← rep_app, ← e]⟩
  · rintro ⟨u, hu, rfl⟩
    refine ⟨leafS (V.zip u), zip_ren hn hu, ?_, arr_asc _, fun y => ?_⟩
    · rw [rep_app]; rfl
    · show y ∈ arrL _ ↔ _
      rw [arr_mem, List.mem_map]
      constructor
      · rintro ⟨z, hz, rfl⟩
        exact ⟨z, hz, by rw [rep_app]⟩
      · rintro ⟨z, hz, rfl⟩
        exact ⟨z, hz, by rw [rep_app]⟩
/-- The normal form is the least of the rules for all orders of V1, V2 and so on. -/
theorem nf_iff {V : List ByteArray} {r x : Rl} (hn : V.Nodup) (us : List (List Tm)) (hus : ∀ u, u ∈ us ↔ u.Perm (vTs V.length)) : IsNF V r x ↔ LeastOf (us.map (cnd V r)) x := by
  constructor
  · rintro ⟨h1, h2⟩
    obtain ⟨u, hu, rfl⟩ := (cand_iff hn).1 h1
    refine ⟨List.mem_map.2 ⟨u, (hus u).2 hu, rfl⟩, fun y hy => ?_⟩
    obtain ⟨u', hu', rfl⟩ := List.mem_map.1 hy
    exact h2 _ ((cand_iff hn).2 ⟨u', (hus u').1 hu', rfl⟩)
  · rintro ⟨h1, h2⟩
    obtain ⟨u, hu, rfl⟩ := List.mem_map.1 h1
    refine ⟨(cand_iff hn).2 ⟨u, (hus u).1 hu, rfl⟩, fun y hy => ?_⟩
    obtain ⟨u', hu', rfl⟩ := (cand_iff hn).1 hy
    exact h2 _ (List.mem_map.2 ⟨u', (hus u').2 hu', rfl⟩)
theorem vis_iff {n : Nat} {u : List Tm} : u ∈ vis n (vTs n) 0 ↔ u.Perm (vTs n) :=
  ⟨fun h => (vis_sub n (vTs n) 0 (by simp [vTs]) u h).1, fun h => vis_all n (vTs n) 0 (by simp [vTs]) u h (by simp)⟩
end NorR
end Go.Proofs.YtdkpflojdnkbnaaGreatDoor
/- Normal forms as plain data: there is one; a normal form is its own; renaming, turning and repeating change nothing. Condition of what repeats: at most nine variables. -/
namespace Go.Proofs.YtdkpflojdnkbnaaGreatDoor
open Go
namespace NorS
open LexM TermM UniM UniK UniD UniE NorM NorP NorQ NorR
theorem mem_lvs {r : Rl} {n : ByteArray} : n ∈ lvsR r ↔ n ∈ leavesT r.1 ∨ ∃ z ∈ r.2, n ∈ leavesT z.2 := by
  have gen : ∀ l : List Tm, n ∈ leavesL l ↔ ∃ t ∈ l, n ∈ leavesT t := by
    intro l
    induction l with
    | nil => simp [leavesL]
    | cons a l ih => simp [leavesL, ih]
  unfold lvsR
  rw [gen]
  constructor
  · rintro ⟨t, ht, h⟩
    rcases List.mem_cons.1 ht with rfl | ht
    · exact Or.inl h
    · obtain ⟨z, hz, rfl⟩ := List.mem_map.1 ht
      exact Or.inr ⟨z, hz, h⟩
  · rintro (h | ⟨z, hz, h⟩)
    · exact ⟨r.1, List.mem_cons_self, h⟩
    · exact ⟨z.2, List.mem_cons_of_mem _ (List.mem_map.2 ⟨z, hz, rfl⟩), h⟩
theorem nmV_var (k : Nat) (h : k < 9) : varB (nmV k) = true := by
  have : ∀ k, k < 9 → varB (nmV k) = true := by decide
  exact this k h
theorem nmV_inj {j k : Nat} (hj : j < 9) (hk : k < 9) (h : nmV j = nmV k) : j = k := by
  have : ∀ j, j < 9 → ∀ k, k < 9 → (nmV j).data.toList = (nmV k).data.toList → j = k := by decide
  exact this j hj k hk (by rw [h])
/-- What a renaming makes of the variables. -/
theorem ren_names {V : List ByteArray} {φ : ByteArray → Tm} (h : IsRen V φ) (h9 : V.length ≤ 9) : ∃ f : ByteArray → ByteArray, (∀ n ∈ V, φ n = .mk (f n) []) ∧ (∀ n ∈ V, varB (f n) = true) ∧ (V.map f).Nodup := by
  have hm : ∀ n ∈ V, ∃ k, k < V.length ∧ φ n = .mk (nmV k) [] := fun n hv => by
    have : φ n ∈ vTs V.length := h.1.mem_iff.1 (List.mem_map.2 ⟨n, hv, rfl⟩)
    obtain ⟨k, h1, h2⟩ := List.mem_map.1 this
    exact ⟨k, by simpa using h1, h2.symm⟩
  refine ⟨fun n => (φ n).nm, fun n hv => ?_, fun n hv => ?_, ?_⟩
  · obtain ⟨k, _, e⟩ := hm n hv
    show φ n = .mk (φ n).nm []
    rw [e]
    rfl
  · obtain ⟨k, hk, e⟩ := hm n hv
    show varB (φ n).nm = true
    rw [e]
    exact nmV_var k (by omega)
  · have h1 : (V.map fun n => (φ n).nm).Perm ((vTs V.length).map Tm.nm) := by
      have := h.1.map Tm.nm
      rwa [List.map_map] at this
    refine h1.nodup_iff.2 ?_
    unfold vTs
    rw [List.map_map]
    refine (List.pairwise_map.2 ?_)
    have hr : (List.range V.length).Pairwise (· < ·) := List.pairwise_lt_range
    refine hr.imp_of_mem ?_
    intro a b ha hb hlt e
    have := nmV_inj (by have := List.mem_range.1 ha; omega) (by have := List.mem_range.1 hb; omega) e
    omega
end NorS
end Go.Proofs.YtdkpflojdnkbnaaGreatDoor
/- The reference's put. Condition: at most a million bindings. -/
namespace Go.Proofs.YtdkpflojdnkbnaaGreatDoor
open Go Go.RowKit
namespace UniR
open LexM TermM TermI Kit TermN TermU UniK UniM UniA UniC UniD UniE UniG UniJ UniO
theorem one_B (a b : ByteArray) (p : Option Addr) (n c : Nat) : ∀ u ∈ [Value.string a, .string b, .slice p n c], u.oneCell' = true := by
  intro u hu
  simp at hu
  rcases hu with rfl | rfl | rfl <;> rfl
theorem bd3 {n : Nat} (h : n ≤ 1000001) : n + 1 ≤ maxLen := by unfold maxLen; omega
theorem bd4 {n : Nat} (h : n ≤ 1000001) : (n + 1) * 56 ≤ 140737488355328 := by omega
/-- A row of the call's own, of bindings whose terms lie in older blocks. -/
def OwnQ (base : Nat) (w : World) (L : List (Bd × Value)) (v : Value) : Prop := w.ownsRow base 69 3 v L.length (KB.flat L) ∧ ∀ x ∈ L, KB.inn (· < base) w x
theorem OwnQ.nil (base : Nat) (w : World) : OwnQ base w [] (.slice none 0 0) := ⟨⟨rfl, Or.inl ⟨rfl, rfl⟩⟩, fun x h => by simp at h⟩
theorem OwnQ.drewN {base : Nat} {w : World} {L : List (Bd × Value)} {v : Value} (h : OwnQ base w L v) (n : Nat) : OwnQ base (w.drewN n) L v := ⟨⟨h.1.1, h.1.2⟩, fun x hx => KB.keep (h.2 x hx) fun _ _ _ => rfl⟩
theorem OwnQ.form {base : Nat} {w : World} {L : List (Bd × Value)} {v : Value} (h : OwnQ base w L v) : ∃ a c, v = .slice a L.length c := by
  rcases h.1.2 with ⟨e, hz⟩ | ⟨g, cap, cur, e, _⟩
  · exact ⟨none, 0, by rw [e, hz]⟩
  · exact ⟨_, cap, e⟩
theorem OwnQ.add {base g cap : Nat} {w2 w3 : World} {o : Obj} {L : List (Bd × Value)} {v : Value} {x : Bd × Value} (h : OwnQ base w2 L v) (hb : base ≤ w2.heap.size) (hx : KB.inn (· < base) w2 x)
    (hown : w3.ownsRow base 69 3 (.slice (some ⟨g, 0, none⟩) (L.length + 1) cap) (L.length + 1) (KB.flat L ++ KB.cells x)) (hgrow : (w2.alloc o).grownBy w3 v.ownBlock) :
    OwnQ base w3 (L ++ [x]) (.slice (some ⟨g, 0, none⟩) (L.length + 1) cap) ∧ Below base w2 w3 := by
  have hl := h.1.lt
  have hB : Below base w2 w3 := ((Below.refl base w2).alloc hb o).grown hgrow (by simp; omega) (fun k hk => (hl k hk).1)
  refine ⟨⟨by rw [List.length_append, flat_app, flat_one]; exact hown, fun y hy => ?_⟩, hB⟩
  have k : ∀ y, KB.inn (· < base) w2 y → KB.inn (· < base) w3 y := fun y h => KB.keep h fun b o hlt => hB.cell (p := ⟨b, o, none⟩) hlt
  rcases List.mem_append.1 hy with hy | hy
  · exact k y (h.2 y hy)
  · obtain rfl := List.mem_singleton.1 hy
    exact k _ hx
theorem OwnQ.sin {base : Nat} {w : World} {L : List (Bd × Value)} {v : Value} (h : OwnQ base w L v) (hb : base ≤ w.heap.size) : SIn (· < w.heap.size) w (L.map (·.1)) v := by
  have hl := h.1.lt
  refine ⟨L, rfl, ?_⟩
  rcases h.1.2 with ⟨e, hz⟩ | ⟨g, cap, cur, e, e2, e3, e4, e5, _⟩
  · exact ⟨none, 0, by rw [e, hz], by omega, Nat.zero_le _, fun x hx => KB.wide (h.2 x hx) fun b hlt => by omega, fun h => by omega⟩
  · subst e
    refine ⟨_, cap, rfl, e4, e5, fun x hx => KB.wide (h.2 x hx) fun b hlt => by omega, fun _ => ⟨g, 0, rfl, (hl g rfl).2, fun i x hx j u hu => ?_⟩⟩
    have hi := (List.getElem?_eq_some_iff.1 hx).1
    have hj := (List.getElem?_eq_some_iff.1 hu).1
    rw [KB.len] at hj
    rw [show 0 + i * 3 + j = i * 3 + j by omega]
    exact (h.1.cellAt _ (by omega)).trans (flat_get L i x hx j u hu)
end UniR
end Go.Proofs.YtdkpflojdnkbnaaGreatDoor
/- Rows of pairs of the call's own; append of a whole row onto an empty row of the call's own. Made by genlig.py. Conditions: sizes as the append asks. -/
namespace Go.Proofs.YtdkpflojdnkbnaaGreatDoor
open Go Go.RowKit
namespace LigQ
open LexM TermM TermI Kit TermN TermU UniK UniM LigP UniJ UniO
/-- A row of the call's own, of pairs whose terms lie in older blocks. -/
def OwnP (base : Nat) (w : World) (L : List (Bd × Value)) (v : Value) : Prop := w.ownsRow base 138 3 v L.length (KP.flat L) ∧ ∀ x ∈ L, KP.inn (· < base) w x
theorem OwnP.nil (base : Nat) (w : World) : OwnP base w [] (.slice none 0 0) := ⟨⟨rfl, Or.inl ⟨rfl, rfl⟩⟩, fun x h => by simp at h⟩
theorem OwnP.drewN {base : Nat} {w : World} {L : List (Bd × Value)} {v : Value} (h : OwnP base w L v) (n : Nat) : OwnP base (w.drewN n) L v := ⟨⟨h.1.1, h.1.2⟩, fun x hx => KP.keep (h.2 x hx) fun _ _ _ => rfl⟩
theorem OwnP.form {base : Nat} {w : World} {L : List (Bd × Value)} {v : Value} (h : OwnP base w L v) : ∃ a c, v = .slice a L.length c := by
  rcases h.1.2 with ⟨e, hz⟩ | ⟨g, cap, cur, e, _⟩
  · exact ⟨none, 0, by rw [e, hz]⟩
  · exact ⟨_, cap, e⟩
theorem OwnP.add {base g cap : Nat} {w2 w3 : World} {o : Obj} {L : List (Bd × Value)} {v : Value} {x : Bd × Value} (h : OwnP base w2 L v) (hb : base ≤ w2.heap.size) (hx : KP.inn (· < base) w2 x)
    (hown : w3.ownsRow base 138 3 (.slice (some ⟨g, 0, none⟩) (L.length + 1) cap) (L.length + 1) (KP.flat L ++ KP.cells x)) (hgrow : (w2.alloc o).grownBy w3 v.ownBlock) :
    OwnP base w3 (L ++ [x]) (.slice (some ⟨g, 0, none⟩) (L.length + 1) cap) ∧ Below base w2 w3 := by
  have hl := h.1.lt
  have hB : Below base w2 w3 := ((Below.refl base w2).alloc hb o).grown hgrow (by simp; omega) (fun k hk => (hl k hk).1)
  refine ⟨⟨by rw [List.length_append, flat_app, flat_one]; exact hown, fun y hy => ?_⟩, hB⟩
  have k : ∀ y, KP.inn (· < base) w2 y → KP.inn (· < base) w3 y := fun y h => KP.keep h fun b o hlt => hB.cell (p := ⟨b, o, none⟩) hlt
  rcases List.mem_append.1 hy with hy | hy
  · exact k y (h.2 y hy)
  · obtain rfl := List.mem_singleton.1 hy
    exact k _ hx
theorem OwnP.sin {base : Nat} {w : World} {L : List (Bd × Value)} {v : Value} (h : OwnP base w L v) (hb : base ≤ w.heap.size) : PIn (· < w.heap.size) w (L.map (·.1)) v := by
  have hl := h.1.lt
  refine ⟨L, rfl, ?_⟩
  rcases h.1.2 with ⟨e, hz⟩ | ⟨g, cap, cur, e, e2, e3, e4, e5, _⟩
  · exact ⟨none, 0, by rw [e, hz], by omega, Nat.zero_le _, fun x hx => KP.wide (h.2 x hx) fun b hlt => by omega, fun h => by omega⟩
  · subst e
    refine ⟨_, cap, rfl, e4, e5, fun x hx => KP.wide (h.2 x hx) fun b hlt => by omega, fun _ => ⟨g, 0, rfl, (hl g rfl).2, fun i x hx j u hu => ?_⟩⟩
    have hi := (List.getElem?_eq_some_iff.1 hx).1
    have hj := (List.getElem?_eq_some_iff.1 hu).1
    rw [KP.len] at hj
    rw [show 0 + i * 3 + j = i * 3 + j by omega]
    exact (h.1.cellAt _ (by omega)).trans (flat_get L i x hx j u hu)
theorem kb_one {ok : Nat → Prop} {w : World} {x : Bd × Value} (h : KP.inn ok w x) : ∀ u ∈ KP.cells x, u.oneCell' = true := by
  obtain ⟨p, c, e⟩ := h.1.form
  intro u hu
  simp only [KP, e, List.mem_cons, List.not_mem_nil, or_false] at hu
  rcases hu with rfl | rfl | rfl <;> rfl
theorem flat_one' {ok : Nat → Prop} {w : World} {L : List (Bd × Value)} (h : ∀ x ∈ L, KP.inn ok w x) : ∀ u ∈ KP.flat L, u.oneCell' = true := by
  intro u hu
  unfold Kd.flat at hu
  obtain ⟨x, hx, hu⟩ := List.mem_flatMap.1 hu
  exact kb_one (h x hx) u hu

section
variable {P : Program} {w : World}
theorem run_append_zero (t ty e : TypeId) (i : TypeInfo) (ht : P.underlying t = some (.slice e)) (hi : P.info? e = some i) (H0 : Nat) (q : Option Addr) (c : Nat) :
    (Builtin.append_ #[t, t] ty #[.slice (some ⟨H0, 0, none⟩) 0 0, .slice q 0 c]).run P w = .ok (.slice (some ⟨H0, 0, none⟩) 0 0) w := by
  cases q with
  | none => simp [Builtin.append_, run_underlying ht, sizeOf, typeInfo, hi, Builtin.lenOf, Builtin.firstCells, storeCells]
  | some a => simp [Builtin.append_, run_underlying ht, sizeOf, typeInfo, hi, Builtin.lenOf, Builtin.firstCells, loadCells, loadCellsFrom, storeCells]
/-- At a step of a drawn region: append([]T{}, l...). -/
theorem step_append_onto {ops : Array Oper} {o : Oper} {a : Act} {K : Act → World → Prop} {Q : Exit → Act → World → Prop} {E : Prop} (hgd : o.guard = none) (s x : Operand) (t : TypeId)
    (ho : o.op = .call { callee := .builtin .append, args := #[s, x], argTypes := #[t, t] })
    (base : Nat) (e : TypeId) (i : TypeInfo) (z : Value) (size bytes : Nat) (ht : P.underlying t = some (.slice e)) (hi : P.info? e = some i) (hz : i.zero = some z)
    (hsize : i.size = size) (hby : i.bytes = bytes) (hzs : z.cells.size = size) (hsz : 0 < size)
    (H0 : Nat) (hs : a.eval s = .slice (some ⟨H0, 0, none⟩) 0 0) (hown : w.ownsRow base e size (.slice (some ⟨H0, 0, none⟩) 0 0) 0 [])
    (q : Option Addr) (m c : Nat) (news : List Value) (hx : a.eval x = .slice q m c) (hl : news.length = m * size) (hnews : 0 < m → ∃ ad, q = some ad ∧ ∀ j u, news[j]? = some u → w.cell? (ad.add j) = some u) (h1 : ∀ u ∈ news, u.oneCell' = true)
    (h63 : m ≤ maxLen) (hbytes : m * bytes ≤ 140737488355328) (hbase : base ≤ w.heap.size)
    (h : ∀ g cap w', w'.ownsRow base e size (.slice (some ⟨g, 0, none⟩) m cap) m news → w.grownBy w' (some H0) → g < w'.heap.size → K (a.put o.dst (.slice (some ⟨g, 0, none⟩) m cap)) w') :
    if Region.wanted o (yielded ops a.tmps) = true then Oper.wp P o a w K Q else E := by
  have hw : Region.wanted o (yielded ops a.tmps) = true := by simp [Region.wanted, hgd]
  rw [if_pos hw]
  have hlt : H0 < w.heap.size := (hown.lt H0 rfl).2
  rcases Nat.eq_zero_or_pos m with hm | hm
  · subst hm
    have hn : news = [] := List.eq_nil_of_length_eq_zero (by simpa using hl)
    subst hn
    have hr := run_append_zero (P := P) (w := w) t o.type e i ht hi H0 q c
    unfold Oper.wp execOp
    simp only [ho, resolve, invoke, builtin, Sem.run_bind, Sem.run_pure, Result.andThen_ok, List.map_toArray, List.map_cons, List.map_nil, hs, hx, hr]
    exact h H0 0 w hown ⟨rfl, rfl, rfl, Nat.le_refl _, fun _ _ _ => rfl⟩ hlt
  · obtain ⟨ad, rfl, hc⟩ := hnews hm
    refine wp_append_lies w s x t ho base e i z size bytes ht hi hz hsize hby hzs hsz _ 0 [] hs hown ad m c news hx hl hc h1 hm (by omega) (by rw [Nat.zero_add]; exact hbytes) hbase w.heap.size rfl fun g cap w' h2 h3 _ h5 => ?_
    rw [Nat.zero_add] at h2 ⊢
    exact h g cap w' h2 h3 h5
end
/-- The cells of a row of pairs. -/
theorem pin_cells {ok : Nat → Prop} {w : World} {l : List Bd} {v : Value} (h : PIn ok w l v) : ∃ (L : List (Bd × Value)) (p : Option Addr) (c : Nat), v = .slice p l.length c ∧ L.map (·.1) = l ∧ L.length = l.length ∧ (∀ x ∈ L, KP.inn ok w x) ∧
    (0 < l.length → ∃ b o, p = some ⟨b, o, none⟩ ∧ ok b ∧ ∀ j u, (KP.flat L)[j]? = some u → w.cell? ⟨b, o + j, none⟩ = some u) := by
  obtain ⟨L, rfl, p, c, e, h1, h2, h3, h4⟩ := h
  refine ⟨L, p, c, by rw [e]; simp, rfl, by simp, h3, fun hp => ?_⟩
  obtain ⟨g, o, e1, e2, e3⟩ := h4 (by simpa using hp)
  exact ⟨g, o, e1, e2, flat_at e3⟩
/-- A row of the call's own, of pairs of a kind: a list of pairs in memory. -/
theorem own_pin {ok : Nat → Prop} {base : Nat} {w : World} {L : List (Bd × Value)} {v : Value} (h : w.ownsRow base 138 3 v L.length (KP.flat L)) (hx : ∀ x ∈ L, KP.inn ok w x) (hk : ∀ b, base ≤ b → b < w.heap.size → ok b) : PIn ok w (L.map (·.1)) v := by
  have hl := h.lt
  refine ⟨L, rfl, ?_⟩
  rcases h.2 with ⟨e, hz⟩ | ⟨g, cap, cur, e, e2, e3, e4, e5, _⟩
  · exact ⟨none, 0, by rw [e, hz], by omega, Nat.zero_le _, hx, fun h => by omega⟩
  · subst e
    refine ⟨_, cap, rfl, e4, e5, hx, fun _ => ⟨g, 0, rfl, hk g (hl g rfl).1 (hl g rfl).2, fun i x hx j u hu => ?_⟩⟩
    have hi := (List.getElem?_eq_some_iff.1 hx).1
    have hj := (List.getElem?_eq_some_iff.1 hu).1
    rw [KP.len] at hj
    rw [show 0 + i * 3 + j = i * 3 + j by omega]
    exact (h.cellAt _ (by omega)).trans (flat_get L i x hx j u hu)
end LigQ
end Go.Proofs.YtdkpflojdnkbnaaGreatDoor
/- Rows of ways (lists of pairs) in memory: given rows, rows of the call's own whose pairs lie anywhere but in the row. No conditions. -/
namespace Go.Proofs.YtdkpflojdnkbnaaGreatDoor
open Go Go.RowKit
namespace LigW
open LexM TermM TermI Kit TermN TermU UniK UniM LigP LigQ
abbrev Wy := List Bd × Value
/-- A row of lists of pairs. -/
def WIn (ok : Nat → Prop) (w : World) (l : List (List Bd)) (v : Value) : Prop :=
  ∃ L : List Wy, L.map (·.1) = l ∧ ∃ p c, v = .slice p L.length c ∧ L.length ≤ c ∧ c ≤ maxLen ∧ (∀ x ∈ L, PIn ok w x.1 x.2) ∧
    (0 < L.length → ∃ g o, p = some ⟨g, o, none⟩ ∧ ok g ∧ ∀ i x, L[i]? = some x → w.cell? ⟨g, o + i, none⟩ = some x.2)
theorem WIn.keep {ok : Nat → Prop} {w w' : World} {l : List (List Bd)} {v : Value} (h : WIn ok w l v) (hf : ∀ b o, ok b → w'.cell? ⟨b, o, none⟩ = w.cell? ⟨b, o, none⟩) : WIn ok w' l v := by
  obtain ⟨L, e, p, c, e1, e2, e3, e4, e5⟩ := h
  refine ⟨L, e, p, c, e1, e2, e3, fun x hx => (e4 x hx).keep hf, fun h0 => ?_⟩
  obtain ⟨g, o, a1, a2, a3⟩ := e5 h0
  exact ⟨g, o, a1, a2, fun i x hx => (hf g _ a2).trans (a3 i x hx)⟩
theorem WIn.wide {ok ok' : Nat → Prop} {w : World} {l : List (List Bd)} {v : Value} (h : WIn ok w l v) (hk : ∀ b, ok b → ok' b) : WIn ok' w l v := by
  obtain ⟨L, e, p, c, e1, e2, e3, e4, e5⟩ := h
  refine ⟨L, e, p, c, e1, e2, e3, fun x hx => (e4 x hx).wide hk, fun h0 => ?_⟩
  obtain ⟨g, o, a1, a2, a3⟩ := e5 h0
  exact ⟨g, o, a1, hk g a2, a3⟩
theorem WIn.form {ok : Nat → Prop} {w : World} {l : List (List Bd)} {v : Value} (h : WIn ok w l v) : ∃ p c, v = .slice p l.length c := by
  obtain ⟨L, rfl, p, c, e, _⟩ := h
  exact ⟨p, c, by rw [e]; simp⟩
theorem WIn.nil (ok : Nat → Prop) (w : World) : WIn ok w [] (.slice none 0 0) := ⟨[], rfl, none, 0, rfl, Nat.le_refl _, Nat.zero_le _, fun x hx => by simp at hx, fun h => by simp at h⟩
theorem WIn.deep {B B' : Nat} {w w' : World} {l : List (List Bd)} {v : Value} (h : WIn (· < B) w l v) (hb : Below B' w w') (hB : B ≤ B') : WIn (· < B) w' l v := h.keep fun _ _ hlt => hb.cell (p := ⟨_, _, none⟩) (Nat.lt_of_lt_of_le hlt hB)
/-- The ways of a list, one cell each. -/
def RowW (B : Nat) (w : World) (l : List (List Bd)) (p : Option Addr) : Prop := ∀ k, k < l.length → ∃ s g o q d, l[k]? = some s ∧ p = some ⟨g, o, none⟩ ∧ g < B ∧ w.cell? ⟨g, o + k, none⟩ = some (.slice q s.length d) ∧ PIn (· < B) w s (.slice q s.length d)
theorem WIn.row {B : Nat} {w : World} {l : List (List Bd)} {v : Value} (h : WIn (· < B) w l v) : ∃ p c, v = .slice p l.length c ∧ l.length ≤ c ∧ c ≤ maxLen ∧ RowW B w l p := by
  obtain ⟨L, rfl, p, c, e, h1, h2, h3, h4⟩ := h
  refine ⟨p, c, by rw [e]; simp, by simpa using h1, h2, fun k hk => ?_⟩
  have hk' : k < L.length := by simpa using hk
  obtain ⟨g, o, e1, e2, e3⟩ := h4 (by omega)
  obtain ⟨x, hx⟩ : ∃ x, L[k]? = some x := ⟨L[k], by simp [hk']⟩
  have hp := h3 x (List.mem_of_getElem? hx)
  obtain ⟨q, d, eq⟩ := hp.form
  exact ⟨x.1, g, o, q, d, by simp [hx], e1, e2, by rw [← eq]; exact e3 k x hx, by rw [← eq]; exact hp⟩
theorem RowW.deep {B B' : Nat} {w w' : World} {l : List (List Bd)} {p : Option Addr} (h : RowW B w l p) (g : Below B' w w') (hB : B ≤ B') : RowW B w' l p := fun k hk => by
  obtain ⟨s, b, o, q, d, h1, h2, h3, h4, h5⟩ := h k hk
  exact ⟨s, b, o, q, d, h1, h2, h3, (g.cell (p := ⟨b, _, none⟩) (Nat.lt_of_lt_of_le h3 hB)).trans h4, h5.deep g hB⟩
/-- A row of the call's own, of ways whose pairs lie anywhere but in it. -/
def OwnW (ok0 : Nat → Prop) (base : Nat) (w : World) (L : List Wy) (v : Value) : Prop :=
  w.ownsRow base 120 1 v L.length (L.map (·.2)) ∧ ∃ ok : Nat → Prop, (∀ b, ok b → (ok0 b ∨ base ≤ b) ∧ b < w.heap.size ∧ v.ownBlock ≠ some b) ∧ ∀ x ∈ L, PIn ok w x.1 x.2
theorem OwnW.nil (ok0 : Nat → Prop) (base : Nat) (w : World) : OwnW ok0 base w [] (.slice none 0 0) :=
  ⟨⟨rfl, Or.inl ⟨rfl, rfl⟩⟩, fun _ => False, fun b h => h.elim, fun x h => by simp at h⟩
theorem OwnW.form {ok0 : Nat → Prop} {base : Nat} {w : World} {L : List Wy} {v : Value} (h : OwnW ok0 base w L v) : ∃ a c, v = .slice a L.length c := by
  rcases h.1.2 with ⟨e, hz⟩ | ⟨g, cap, cur, e, _⟩
  · exact ⟨none, 0, by rw [e, hz]⟩
  · exact ⟨_, cap, e⟩
theorem OwnW.below {ok0 : Nat → Prop} {base : Nat} {w w' : World} {L : List Wy} {v : Value} (h : OwnW ok0 base w L v) (g : Below w.heap.size w w') : OwnW ok0 base w' L v := by
  obtain ⟨h1, ok, h2, h3⟩ := h
  have hl := h1.lt
  refine ⟨⟨h1.1, ?_⟩, ok, fun b hk => ⟨(h2 b hk).1, Nat.lt_of_lt_of_le (h2 b hk).2.1 g.size, (h2 b hk).2.2⟩, fun x hx => (h3 x hx).keep fun b o hk => g.cell (p := ⟨b, o, none⟩) (h2 b hk).2.1⟩
  rcases h1.2 with h | ⟨k, cap, cur, e1, e2, e3, e4⟩
  · exact Or.inl h
  · exact Or.inr ⟨k, cap, cur, e1, e2, (g.block k (hl k (by rw [e1]; rfl)).2).trans e3, e4⟩
theorem OwnW.drewN {ok0 : Nat → Prop} {base : Nat} {w : World} {L : List Wy} {v : Value} (h : OwnW ok0 base w L v) (n : Nat) : OwnW ok0 base (w.drewN n) L v := by
  obtain ⟨h1, ok, h2, h3⟩ := h
  exact ⟨⟨h1.1, h1.2⟩, ok, h2, fun x hx => (h3 x hx).keep fun _ _ _ => rfl⟩
theorem OwnW.add {ok0 : Nat → Prop} {base : Nat} {w2 w3 : World} {L : List Wy} {v : Value} {o : Obj} {g cap : Nat} {x : Wy} {ok' : Nat → Prop} (h : OwnW ok0 base w2 L v) (hs : PIn ok' w2 x.1 x.2) (hok : ∀ b, ok' b → (ok0 b ∨ base ≤ b) ∧ b < w2.heap.size ∧ v.ownBlock ≠ some b)
    (hown : w3.ownsRow base 120 1 (.slice (some ⟨g, 0, none⟩) (L.length + 1) cap) (L.length + 1) (L.map (·.2) ++ [x.2])) (hgrow : (w2.alloc o).grownBy w3 v.ownBlock) (hat : v.ownBlock = some g ∨ g = w2.heap.size + 1) :
    OwnW ok0 base w3 (L ++ [x]) (.slice (some ⟨g, 0, none⟩) (L.length + 1) cap) := by
  obtain ⟨h1, ok, h2, h3⟩ := h
  have hsz : w2.heap.size + 1 ≤ w3.heap.size := by have := hgrow.size; simpa using this
  have fr : ∀ b o, b < w2.heap.size → v.ownBlock ≠ some b → w3.cell? ⟨b, o, none⟩ = w2.cell? ⟨b, o, none⟩ := fun b o hb hne => by
    refine World.cell?_of_block (w := w2) (a := ⟨b, o, none⟩) ?_
    exact (hgrow.block b (by simp; omega) (fun e => hne e.symm)).trans (Below.heap_alloc _ _ _ hb)
  refine ⟨by rw [List.length_append, List.map_append]; exact hown, fun b => ok b ∨ ok' b, fun b hk => ?_, fun y hy => ?_⟩
  · have hb2 : (ok0 b ∨ base ≤ b) ∧ b < w2.heap.size ∧ v.ownBlock ≠ some b := by
      rcases hk with hk | hk
      · exact h2 b hk
      · exact hok b hk
    refine ⟨hb2.1, by omega, fun e => ?_⟩
    have e' : g = b := by simpa [Value.ownBlock] using e
    rcases hat with h | h
    · exact hb2.2.2 (by rw [h, e'])
    · omega
  · rcases List.mem_append.1 hy with hy | hy
    · exact ((h3 y hy).keep fun b o hk => fr b o (h2 b hk).2.1 (h2 b hk).2.2).wide fun b hk => Or.inl hk
    · obtain rfl := List.mem_singleton.1 hy
      exact (hs.keep fun b o hk => fr b o (hok b hk).2.1 (hok b hk).2.2).wide fun b hk => Or.inr hk
theorem OwnW.win {ok0 : Nat → Prop} {base : Nat} {w : World} {L : List Wy} {v : Value} (h : OwnW ok0 base w L v) : WIn (fun b => ok0 b ∨ (base ≤ b ∧ b < w.heap.size)) w (L.map (·.1)) v := by
  obtain ⟨h1, ok, h2, h3⟩ := h
  have hl := h1.lt
  have h3' : ∀ x ∈ L, PIn (fun b => ok0 b ∨ (base ≤ b ∧ b < w.heap.size)) w x.1 x.2 := fun x hx => (h3 x hx).wide fun b hk => (h2 b hk).1.imp id fun h => ⟨h, (h2 b hk).2.1⟩
  refine ⟨L, rfl, ?_⟩
  rcases h1.2 with ⟨e, hz⟩ | ⟨g, cap, cur, e, e2, e3, e4, e5, _⟩
  · exact ⟨none, 0, by rw [e, hz], by omega, Nat.zero_le _, h3', fun h => by omega⟩
  · subst e
    refine ⟨_, cap, rfl, e4, e5, h3', fun _ => ⟨g, 0, rfl, Or.inr (hl g rfl), fun i x hx => ?_⟩⟩
    have hi := (List.getElem?_eq_some_iff.1 hx).1
    rw [Nat.zero_add]
    exact (h1.cellAt _ (by simpa using hi)).trans (by simp [hx])
theorem Tryz.infoW : (Tryz.prog.info? 120).map (fun i => (i.zero, i.size, i.bytes)) = some (some (.slice none 0 0), 1, 24) := by kernel_rfl
end LigW
end Go.Proofs.YtdkpflojdnkbnaaGreatDoor
