/- Texts laid together: NosA; NosP; NosB; NosC. Their own heads stand before each. -/
import Derived.Test.YtdkpflojdnkbnaaGreatDoorHAL
import Derived.Test.YtdkpflojdnkbnaaGreatDoorLitSh
import Derived.Test.YtdkpflojdnkbnaaGreatDoorHAN
import Derived.Lib.SliceRun
import Derived.Deep.RegionHeld3
import Derived.Deep.DeepCutAuto
import Derived.Test.YtdkpflojdnkbnaaGreatDoorHAS
/- The library's sort at literals, under compareLiterals: the row holds them again, ascending. Conditions: the row is the caller's own; fewer than 2^62 literals, at least one. -/
namespace Go.Proofs.YtdkpflojdnkbnaaGreatDoor
open Go Go.RowKit Go.Sort Go.Lib Go.Shelf
namespace NosA
open LexM TermM TermI Kit TermN TermQ TermR TermU UniK UniM UnpP NorM NorA
/-- A literal with the slice value of its list, that lies in blocks of a kind. -/
abbrev El (ok : Nat → Prop) (w : World) := { x : Lt × Value // KL.inn ok w x }
def encE {ok : Nat → Prop} {w : World} (x : El ok w) : List Value := KL.cells x.1
def cfE {ok : Nat → Prop} {w : World} (x y : El ok w) : Int := cmpLt x.1.1 y.1.1
theorem swo {ok : Nat → Prop} {w : World} : SWO (ltOf (cfE (ok := ok) (w := w))) where
  irrefl x := by unfold ltOf cfE; rw [(lt_zero _ _).2 rfl]; rfl
  trans x y z h1 h2 := by
    unfold ltOf cfE at *
    have := tri_lt x.1.1 y.1.1 z.1.1
    unfold Tri at this
    simp at *
    omega
  ntrans x y z h1 h2 := by
    unfold ltOf cfE at *
    have := tri_lt x.1.1 y.1.1 z.1.1
    unfold Tri at this
    simp at *
    omega
theorem cell_sortK {α : Type} [Inhabited α] (enc : α → List Value) (k : Nat) (w : World) (g m : Nat) (dk : Array α) (os : Array Obj) (b o : Nat) (hb : b ≠ g) (hl : b < w.heap.size) : (sortWorldK enc k w g 0 m dk os).cell? ⟨b, o, none⟩ = w.cell? ⟨b, o, none⟩ := by
  unfold sortWorldK
  rw [cell?_grow _ _ _ (by rw [size_putRowK]; exact hl), cell?_putRowK_other _ _ _ _ _ _ _ hb]
  rfl
theorem heap_sortK {α : Type} [Inhabited α] (enc : α → List Value) (k : Nat) (w : World) (g m : Nat) (dk : Array α) (os : Array Obj) (b : Nat) (hb : b ≠ g) (hl : b < w.heap.size) : (sortWorldK enc k w g 0 m dk os).heap[b]? = w.heap[b]? := by
  unfold sortWorldK Sort.grow
  show (((putRowK enc k (Sort.ahead w m) g 0 dk).heap) ++ os)[b]? = _
  rw [Array.getElem?_append_left (by rw [size_putRowK]; exact hl)]
  simp [putRowK, putRow, mapBlock, Sort.ahead, Array.getElem?_modify, Ne.symm hb]
theorem ch_sortK {α : Type} [Inhabited α] (enc : α → List Value) (k : Nat) (w : World) (g m : Nat) (dk : Array α) (os : Array Obj) : Ch g w (sortWorldK enc k w g 0 m dk os) :=
  ⟨rfl, rfl, rfl, size_sortWorldK_c enc k w g 0 m dk os, fun b hb hne => heap_sortK enc k w g m dk os b (fun e => hne (by rw [e])) hb⟩
theorem isAgg : ∀ w, (Go.isAgg (Tryz.sortL_ren.t 24)).run Tryz.prog w = .ok true w := fun w => by kernel_rfl
theorem sizeOf : ∀ w, (Go.sizeOf (Tryz.sortL_ren.t 24)).run Tryz.prog w = .ok 3 w := fun w => by kernel_rfl
/-- These cells lie at the beginning of a block, none of them frozen. -/
def Hd (w : World) (g : Nat) (cs : List Value) : Prop := ∀ j u, cs[j]? = some u → w.cell? ⟨g, j, none⟩ = some u ∧ w.frozen? ⟨g, j, none⟩ = false
theorem Hd.grown {w w' : World} {g : Nat} {cs : List Value} {r : Option Nat} (h : Hd w g cs) (hg : w.grownBy w' r) (hr : r ≠ some g) : Hd w' g cs := fun j u hu => by
  obtain ⟨h1, h2⟩ := h j u hu
  have hb := hg.block g (World.block_lt_of_cell? w ⟨g, j, none⟩ h1) (fun e => hr e.symm)
  exact ⟨(World.cell?_of_block (a := ⟨g, j, none⟩) hb).trans h1, (World.frozen?_of_block (a := ⟨g, j, none⟩) hb).trans h2⟩
theorem Hd.gr {w w' : World} {g : Nat} {cs : List Value} (h : Hd w g cs) (k : Below w.heap.size w w') : Hd w' g cs := fun j u hu => by
  obtain ⟨h1, h2⟩ := h j u hu
  have hb := World.block_lt_of_cell? w ⟨g, j, none⟩ h1
  exact ⟨(k.cell (p := ⟨g, j, none⟩) hb).trans h1, (k.frozen (p := ⟨g, j, none⟩) hb).trans h2⟩
theorem Hd.set {w : World} {g : Nat} {cs : List Value} (h : Hd w g cs) {i : Nat} (hi : i < cs.length) (u : Value) : Hd (w.setCell ⟨g, i, none⟩ u) g (cs.set i u) := fun j v hv => by
  have hi' := h i _ (List.getElem?_eq_getElem hi)
  rw [List.getElem?_set] at hv
  split at hv
  · rename_i e
    subst e
    obtain rfl := Option.some.inj hv
    exact ⟨World.cell?_setCell_same _ _ _ hi'.1, by rw [World.frozen?_setCell]; exact hi'.2⟩
  · rename_i e
    obtain ⟨h1, h2⟩ := h j v hv
    exact ⟨(World.cell?_setCell_other _ _ _ _ (fun e' => e (by injection e'))).trans h1, by rw [World.frozen?_setCell]; exact h2⟩
/-- What the sort leaves. -/
def Srtd (ok : Nat → Prop) (g : Nat) (L : List (Lt × Value)) (w : World) (e : Ending) (w' : World) : Prop :=
  ∃ L' : List (Lt × Value), e = .returned (.tuple #[]) ∧ L'.Perm L ∧ (∀ (i j : Nat) (x y : Lt × Value), i < j → L'[i]? = some x → L'[j]? = some y → cmpLt x.1 y.1 ≤ 0) ∧
    Hd w' g (KL.flat L') ∧ (∀ x ∈ L', KL.inn ok w' x) ∧ Ch g w w'
set_option maxHeartbeats 1600000 in
theorem sortl_any (ok : Nat → Prop) (w : World) (base g cap : Nat) (L : List (Lt × Value)) (hok : ∀ b, ok b → b < w.heap.size ∧ b ≠ g) (hL : ∀ x ∈ L, KL.inn ok w x)
    (hown : w.ownsRow base 47 3 (.slice (some ⟨g, 0, none⟩) L.length cap) L.length (KL.flat L)) (hz : L.length < 4611686018427387904) (hne : L ≠ []) :
    Calls Tryz.prog 74 #[.slice (some ⟨g, 0, none⟩) L.length cap, .func (.func 29) #[] #[]] w (Srtd ok g L w) := by
  have hgl := (hown.lt g rfl).2
  let D : List (El ok w) := L.attach.map fun x => ⟨x.1, hL x.1 x.2⟩
  have hDL : D.map (·.1) = L := by simp only [D, List.map_map, Function.comp_def]; exact List.attach_map_subtype_val L
  have hDl : D.length = L.length := by rw [← hDL]; simp
  obtain ⟨x0, hx0⟩ : ∃ x0, x0 ∈ D := by
    cases hD : D with
    | nil => rw [hD] at hDl; exact absurd (List.eq_nil_of_length_eq_zero hDl.symm) hne
    | cons a r => exact ⟨a, by simp⟩
  letI : Inhabited (El ok w) := ⟨x0⟩
  have hget : ∀ (i : Nat) (x : Lt × Value), L[i]? = some x → (D.toArray[i]!).1 = x := by
    intro i x hx
    rw [← hDL, List.getElem?_map] at hx
    obtain ⟨y, h1, h2⟩ := Option.map_eq_some_iff.1 hx
    have hi := (List.getElem?_eq_some_iff.1 h1)
    obtain ⟨hi, h3⟩ := hi
    rw [getElem!_pos _ i (by simpa using hi)]
    simp [h3, h2]
  have hH : HoldsK encE 3 w g 0 D.toArray := by
    intro j hj
    rw [size_flatK] at hj
    have hj' : j < L.length * 3 := by rw [← hDl]; simpa using hj
    rw [get_flatK _ _ _ _ hj]
    obtain ⟨x, hx⟩ : ∃ x, L[j / 3]? = some x := ⟨L[j / 3]'(by omega), by simp⟩
    have he := hget _ x hx
    have h3 : j % 3 < (KL.cells x).length := by rw [KL.len]; omega
    have f := flat_get (K := KL) L (j / 3) x hx (j % 3) ((KL.cells x)[j % 3]) (List.getElem?_eq_getElem h3)
    rw [show j / 3 * 3 + j % 3 = j by omega] at f
    refine ⟨?_, hown.frozenAt _⟩
    rw [Nat.zero_add, hown.cellAt j hj', f]
    unfold encE
    rw [he, getElem!_pos (KL.cells x) (j % 3) h3]
    rfl
  have hcmp : CmpLays Tryz.prog 29 #[] (encE (ok := ok) (w := w)) 3 cfE g 0 D.toArray.size w := by
    intro m os dk hdk x y
    have fr : ∀ b o, ok b → (sortWorldK encE 3 w g 0 m dk os).cell? ⟨b, o, none⟩ = w.cell? ⟨b, o, none⟩ := fun b o hb => cell_sortK _ _ _ _ _ _ _ _ _ (hok b hb).2 (hok b hb).1
    have hc := lits_any x.1.1 y.1.1 w.heap.size (sortWorldK encE 3 w g 0 m dk os) x.1.2 y.1.2 (size_sortWorldK_c encE 3 w g 0 m dk os) ((x.2.1.frame fr).weaken fun b hb => (hok b hb).1) ((y.2.1.frame fr).weaken fun b hb => (hok b hb).1) x.2.2 y.2.2
    exact hc.mono fun e w' ⟨he, hg⟩ => ⟨he, TermP.Gr.grow hg⟩
  have eg : ∀ args w, (callFunc 29 args).run Tryz.prog w = .ok (.enter 29 args) w := enters_of Tryz.func29 (by kernel_rfl) rfl
  have hcon := AnyQ.slices_SortFunc Tryz.sortL 3 isAgg sizeOf (encE (ok := ok) (w := w)) (fun _ => rfl) (fun x v hv => by
    obtain ⟨p, c, hf⟩ := x.2.1.form
    have hv' : v ∈ [Value.bool x.1.1.1, .string x.1.1.2.nm, x.1.2] := hv
    rw [hf] at hv'
    exact one_L _ _ _ _ _ v hv') cfE swo 29 #[] g 0 cap D.toArray w eg hcmp hH hgl (by simp [hDl]; omega)
  have hsz : D.toArray.size = L.length := by simp [hDl]
  rw [hsz] at hcon
  refine Calls.mono (show Calls Tryz.prog 74 _ w _ from hcon) ?_
  rintro e w' ⟨he, d', n, os, hp, hs, rfl⟩
  obtain ⟨p1, p2, p3⟩ := hp
  have e1 : (d'.extract 0 L.length).toList = d'.toList := by rw [← hsz, ← p1]; simp
  have e2 : (D.toArray.extract 0 L.length).toList = D := by rw [← hsz]; simp
  rw [e1, e2] at p3
  have hlen : d'.toList.length = L.length := by rw [← hsz, ← p1]; simp
  have hH' := holdsK_sortWorldK_c encE 3 w g 0 D.toArray d' n os hH hgl p1
  have hat : ∀ (i : Nat) (y : El ok w), d'.toList[i]? = some y → i < d'.size ∧ d'[i]! = y := by
    intro i y hy
    obtain ⟨hi, h2⟩ := List.getElem?_eq_some_iff.1 hy
    have hi' : i < d'.size := by simpa using hi
    exact ⟨hi', by rw [getElem!_pos _ i hi']; simpa using h2⟩
  have key : ∀ (i : Nat) (x : Lt × Value), (d'.toList.map (·.1))[i]? = some x → ∃ y : El ok w, d'.toList[i]? = some y ∧ y.1 = x := by
    intro i x hx
    rw [List.getElem?_map] at hx
    obtain ⟨y, a, b⟩ := Option.map_eq_some_iff.1 hx
    exact ⟨y, a, b⟩
  refine ⟨d'.toList.map (·.1), he, ?_, ?_, ?_, ?_, ch_sortK _ _ _ _ _ _ _⟩
  · have := p3.map (·.1)
    rwa [hDL] at this
  · intro i j x y hij hx hy
    obtain ⟨x', hx', rfl⟩ := key i x hx
    obtain ⟨y', hy', rfl⟩ := key j y hy
    obtain ⟨a1, a2⟩ := hat i x' hx'
    obtain ⟨b1, b2⟩ := hat j y' hy'
    have h := hs i j (Nat.zero_le _) hij (by omega)
    rw [a2, b2] at h
    unfold ltOf cfE at h
    have h2 := lt_neg y'.1.1 x'.1.1
    simp at h
    omega
  · intro j u hu
    have hj : j < (d'.toList.map (·.1)).length * 3 := by
      have := (List.getElem?_eq_some_iff.1 hu).1
      rwa [flat_len] at this
    obtain ⟨x, hx⟩ : ∃ x, (d'.toList.map (·.1))[j / 3]? = some x := ⟨(d'.toList.map (·.1))[j / 3]'(by omega), by rw [List.getElem?_eq_getElem (by omega)]⟩
    obtain ⟨y, hy, rfl⟩ := key _ x hx
    obtain ⟨a1, a2⟩ := hat _ y hy
    have h3 : j % 3 < (KL.cells y.1).length := by rw [KL.len]; omega
    have f := flat_get (K := KL) (d'.toList.map (·.1)) (j / 3) y.1 hx (j % 3) ((KL.cells y.1)[j % 3]) (List.getElem?_eq_getElem h3)
    rw [show j / 3 * 3 + j % 3 = j by omega] at f
    rw [f] at hu
    obtain rfl := Option.some.inj hu
    have c := hH'.cell (i := j / 3) (c := j % 3) a1 (by omega)
    rw [show 0 + j / 3 * 3 + j % 3 = j by omega, a2] at c
    unfold encE at c
    rw [getElem!_pos (KL.cells y.1) (j % 3) h3] at c
    exact c
  · intro x hx
    obtain ⟨y, hy, rfl⟩ := List.mem_map.1 hx
    exact KL.keep y.2 fun b o hb => cell_sortK _ _ _ _ _ _ _ _ _ (hok b hb).2 (hok b hb).1
end NosA
end Go.Proofs.YtdkpflojdnkbnaaGreatDoor
/- What is kept of an ascending list: plain facts for slices.CompactFunc at literals; a run of cells that is set. No conditions. -/
namespace Go.Proofs.YtdkpflojdnkbnaaGreatDoor
open Go Go.RowKit
namespace NosP
open LexM TermM TermI Kit TermN TermU UniK UniM NorM NorR NosA
theorem three_of (l : List Value) (h : l.length = 3) : ∃ a b c, l = [a, b, c] := by
  match l, h with
  | [a, b, c], _ => exact ⟨a, b, c, rfl⟩
def SrtL (L : List (Lt × Value)) : Prop := ∀ (i j : Nat) (x y : Lt × Value), i < j → L[i]? = some x → L[j]? = some y → cmpLt x.1 y.1 ≤ 0
/-- What is kept of the first t. -/
def Cm (L C : List (Lt × Value)) (t : Nat) : Prop := Asc cmpLt (C.map (·.1)) ∧ ∀ y, y ∈ C.map (·.1) ↔ y ∈ (L.take t).map (·.1)
theorem Cm.one {L : List (Lt × Value)} : Cm L (L.take 1) 1 := by
  refine ⟨?_, fun y => Iff.rfl⟩
  cases L with
  | nil => exact List.Pairwise.nil
  | cons a l => simp [Asc]
theorem Cm.keep {L C : List (Lt × Value)} {t : Nat} (hs : SrtL L) (h : Cm L C t) {x y : Lt × Value} (hy : L[t - 1]? = some y) (hx : L[t]? = some x) (ht : 1 ≤ t) (hne : cmpLt x.1 y.1 ≠ 0) : Cm L (C ++ [x]) (t + 1) := by
  refine ⟨?_, fun z => ?_⟩
  · rw [List.map_append]
    refine List.pairwise_append.2 ⟨h.1, by simp, fun a ha b hb => ?_⟩
    obtain rfl : b = x.1 := by simpa using hb
    obtain ⟨z, hz, rfl⟩ := List.mem_map.1 ((h.2 a).1 ha)
    obtain ⟨i, hi⟩ := List.mem_iff_getElem?.1 hz
    rw [List.getElem?_take] at hi
    split at hi
    · rename_i hit
      have h1 := hs (t - 1) t y x (by omega) hy hx
      have h2 := lt_neg x.1 y.1
      by_cases e : i = t - 1
      · subst e
        rw [hy] at hi
        obtain rfl := Option.some.inj hi
        show cmpLt y.1 x.1 < 0
        omega
      · have h3 := hs i (t - 1) z y (by omega) hi hy
        have h4 := tri_lt z.1 y.1 x.1
        unfold Tri at h4
        show cmpLt z.1 x.1 < 0
        omega
    · simp at hi
  · rw [List.map_append, List.mem_append, h.2 z, take_get L t x hx, List.map_append, List.mem_append]
theorem Cm.skip {L C : List (Lt × Value)} {t : Nat} (h : Cm L C t) {x y : Lt × Value} (hy : L[t - 1]? = some y) (hx : L[t]? = some x) (ht : 1 ≤ t) (h0 : cmpLt x.1 y.1 = 0) : Cm L C (t + 1) := by
  refine ⟨h.1, fun z => ?_⟩
  rw [h.2 z, take_get L t x hx, List.map_append, List.mem_append]
  refine ⟨Or.inl, fun hz => hz.elim id fun hz => ?_⟩
  obtain rfl : z = x.1 := by simpa using hz
  rw [(lt_zero _ _).1 h0]
  refine List.mem_map.2 ⟨y, List.mem_iff_getElem?.2 ⟨t - 1, ?_⟩, rfl⟩
  rw [List.getElem?_take, if_pos (by omega)]
  exact hy
/-- What the inner loop of CompactFunc keeps: the first q of the row are what is kept of the first t; behind them, from t - 1 on, stands what stood there. -/
def In2 (L M : List (Lt × Value)) (q t : Nat) : Prop := M.length = L.length ∧ q + 1 ≤ t ∧ t ≤ L.length ∧ Cm L (M.take q) t ∧ (∀ j, t - 1 ≤ j → M[j]? = L[j]?) ∧ ∀ x ∈ M, x ∈ L
theorem In2.start {L : List (Lt × Value)} {k : Nat} (h : Cm L (L.take k) k) {x y : Lt × Value} (hy : L[k - 1]? = some y) (hx : L[k]? = some x) (hk : 1 ≤ k) (h0 : cmpLt x.1 y.1 = 0) : In2 L L k (k + 1) :=
  ⟨rfl, Nat.le_refl _, (List.getElem?_eq_some_iff.1 hx).1, h.skip hy hx hk h0, fun _ _ => rfl, fun _ h => h⟩
theorem In2.skip {L M : List (Lt × Value)} {q t : Nat} (h : In2 L M q t) {x y : Lt × Value} (hy : L[t - 1]? = some y) (hx : L[t]? = some x) (h0 : cmpLt x.1 y.1 = 0) : In2 L M q (t + 1) :=
  ⟨h.1, by have := h.2.1; omega, (List.getElem?_eq_some_iff.1 hx).1, h.2.2.2.1.skip hy hx (by have := h.2.1; omega) h0, fun j hj => h.2.2.2.2.1 j (by omega), h.2.2.2.2.2⟩
theorem In2.keep {L M : List (Lt × Value)} {q t : Nat} (hs : SrtL L) (h : In2 L M q t) {x y : Lt × Value} (hy : L[t - 1]? = some y) (hx : L[t]? = some x) (hne : cmpLt x.1 y.1 ≠ 0) : In2 L (M.set q x) (q + 1) (t + 1) := by
  obtain ⟨h1, h2, h3, h4, h5, h6⟩ := h
  have ht := (List.getElem?_eq_some_iff.1 hx).1
  refine ⟨by simpa using h1, by omega, ht, ?_, fun j hj => ?_, fun z hz => ?_⟩
  · have e : (M.set q x).take (q + 1) = M.take q ++ [x] := by
      rw [take_get (M.set q x) q x (by rw [List.getElem?_set_self (by omega)]), List.take_set]
      congr 1
      exact List.set_eq_of_length_le (by simp; omega)
    rw [e]
    exact h4.keep hs hy hx (by omega) hne
  · rw [List.getElem?_set_ne (by omega)]
    exact h5 j (by omega)
  · rcases List.mem_or_eq_of_mem_set hz with h | rfl
    · exact h6 z h
    · exact List.mem_of_getElem? hx
theorem flat_set3 {α : Type} {K : Kd α} : ∀ (M : List α) (i : Nat) (x : α) (a b c : Value), i < M.length → K.cells x = [a, b, c] → (((K.flat M).set (i * 3) a).set (i * 3 + 1) b).set (i * 3 + 2) c = K.flat (M.set i x)
  | [], i, x, a, b, c, h, _ => by simp at h
  | y :: M, 0, x, a, b, c, _, hx => by
    obtain ⟨p, q, r, e⟩ := three_of (K.cells y) (K.len y)
    simp [Kd.flat, e, hx]
  | y :: M, i + 1, x, a, b, c, h, hx => by
    have ih := flat_set3 (K := K) M i x a b c (by simpa using h) hx
    obtain ⟨p, q, r, e⟩ := three_of (K.cells y) (K.len y)
    have e1 : K.flat (y :: M) = p :: q :: r :: K.flat M := by simp [Kd.flat, e]
    have e2 : K.flat ((y :: M).set (i + 1) x) = p :: q :: r :: K.flat (M.set i x) := by simp [Kd.flat, e]
    rw [e1, e2, ← ih, show (i + 1) * 3 = i * 3 + 1 + 1 + 1 by omega, show i * 3 + 1 + 1 + 1 + 1 = (i * 3 + 1) + 1 + 1 + 1 by omega, show i * 3 + 1 + 1 + 1 + 2 = (i * 3 + 2) + 1 + 1 + 1 by omega]
    simp only [List.set_cons_succ]
theorem Hd.put3 {α : Type} {K : Kd α} {w : World} {g : Nat} {M : List α} (h : Hd w g (K.flat M)) {i : Nat} (hi : i < M.length) {x : α} {a b c : Value} (hx : K.cells x = [a, b, c]) :
    Hd (((w.setCell ⟨g, i * 3, none⟩ a).setCell ⟨g, i * 3 + 1, none⟩ b).setCell ⟨g, i * 3 + 2, none⟩ c) g (K.flat (M.set i x)) := by
  rw [← flat_set3 M i x a b c hi hx]
  have hl : (K.flat M).length = M.length * 3 := flat_len M
  exact ((h.set (by omega) a).set (by simp; omega) b).set (by simp; omega) c
/-- An element's three cells. -/
theorem Hd.at {α : Type} {K : Kd α} {w : World} {g : Nat} {M : List α} (h : Hd w g (K.flat M)) {i : Nat} {x : α} (hi : M[i]? = some x) {a b c : Value} (hx : K.cells x = [a, b, c]) :
    w.cell? ⟨g, i * 3, none⟩ = some a ∧ w.cell? ⟨g, i * 3 + 1, none⟩ = some b ∧ w.cell? ⟨g, i * 3 + 1 + 1, none⟩ = some c ∧ w.frozen? ⟨g, i * 3, none⟩ = false ∧ w.frozen? ⟨g, i * 3 + 1, none⟩ = false ∧ w.frozen? ⟨g, i * 3 + 1 + 1, none⟩ = false ∧ g < w.heap.size := by
  have f0 := flat_get (K := K) M i x hi 0 a (by rw [hx]; rfl)
  have f1 := flat_get (K := K) M i x hi 1 b (by rw [hx]; rfl)
  have f2 := flat_get (K := K) M i x hi 2 c (by rw [hx]; rfl)
  obtain ⟨a1, b1⟩ := h _ _ f0
  obtain ⟨a2, b2⟩ := h _ _ f1
  obtain ⟨a3, b3⟩ := h _ _ f2
  exact ⟨a1, a2, a3, b1, b2, b3, World.block_lt_of_cell? w _ a1⟩
/-- The row of what is kept. -/
theorem Hd.row {α : Type} {K : Kd α} {ok : Nat → Prop} {w : World} {g : Nat} {C : List α} (h : Hd w g (K.flat C)) (hg : ok g) (hk : ∀ x ∈ C, K.inn ok w x) {cap : Nat} (hc : C.length ≤ cap) (hm : cap ≤ maxLen) : RowG K ok w C (.slice (some ⟨g, 0, none⟩) C.length cap) :=
  ⟨_, cap, rfl, hc, hm, hk, fun _ => ⟨g, 0, rfl, hg, fun i x hx j u hu => by rw [Nat.zero_add]; exact (h _ u (flat_get (K := K) C i x hx j u hu)).1⟩⟩
theorem Hd.take {w : World} {g : Nat} {cs : List Value} (h : Hd w g cs) (m : Nat) : Hd w g (cs.take m) := fun j u hu => by
  rw [List.getElem?_take] at hu
  split at hu
  · exact h j u hu
  · simp at hu
theorem flat_take {α : Type} {K : Kd α} : ∀ (M : List α) (q : Nat), K.flat (M.take q) = (K.flat M).take (q * 3)
  | [], q => by simp [Kd.flat]
  | y :: M, 0 => by simp [Kd.flat]
  | y :: M, q + 1 => by
    obtain ⟨a, b, c, e⟩ := three_of (K.cells y) (K.len y)
    have e1 : K.flat (y :: M) = a :: b :: c :: K.flat M := by simp [Kd.flat, e]
    have e2 : K.flat ((y :: M).take (q + 1)) = a :: b :: c :: K.flat (M.take q) := by simp [Kd.flat, e]
    rw [e1, e2, flat_take M q, show (q + 1) * 3 = q * 3 + 1 + 1 + 1 by omega]
    rfl
theorem Hd.cut {w : World} {g : Nat} {cs : List Value} {m : Nat} (h : Hd w g (cs.take m)) (vs : List Value) : Hd (w.setCells g m vs) g (cs.take m) := fun j u hu => by
  obtain ⟨h1, h2⟩ := h j u hu
  have hj : j < m := by
    have := (List.getElem?_eq_some_iff.1 hu).1
    simp at this
    omega
  exact ⟨(World.cell?_setCells_out g vs m w ⟨g, j, none⟩ (fun _ _ => Or.inl hj)).trans h1, by rw [World.frozen?_setCells]; exact h2⟩
theorem ch_setCells {g : Nat} {a b : World} (h : Ch g a b) : ∀ (vs : List Value) (o : Nat), Ch g a (b.setCells g o vs) := by
  intro vs
  induction vs generalizing b with
  | nil => intro o; exact h
  | cons v vs ih => intro o; exact ih (h.put (Or.inl rfl) v) (o + 1)
/-- clear of a row of literals. -/
theorem clear_any (w : World) (t e : TypeId) (z : Value) (cs : Array Value) (ht : Tryz.prog.underlying t = some (.slice e)) (hv : ∀ w, (zeroValue e).run Tryz.prog w = .ok z w) (hz : z.cells = cs) (h1 : ∀ v ∈ cs, v.oneCell' = true) (b o n c : Nat) (hn : 0 < n)
    (hc : ∀ j, j < n * cs.size → (w.cell? ⟨b, o + j, none⟩).isSome = true) (hf : ∀ j, j < n * cs.size → w.frozen? ⟨b, o + j, none⟩ = false) :
    ∃ vs, ∀ ty, (Builtin.clear_ #[t] ty #[.slice (some ⟨b, o, none⟩) n c]).run Tryz.prog w = .ok (.tuple #[]) (w.setCells b o vs) := by
  have hl : (Builtin.zeroCells cs n).toList.length = n * cs.size := by simp [Builtin.zeroCells]
  have hst := run_storeCells_cells (P := Tryz.prog) b o (Builtin.zeroCells cs n).toList 0 w (by rw [hl]; exact hc) (by rw [hl]; exact hf) (by
    intro v hv'
    simp [Builtin.zeroCells] at hv'
    obtain ⟨i, hi, rfl⟩ := hv'
    have hm : i % cs.size < cs.size := Nat.mod_lt _ (by
      rcases Nat.eq_zero_or_pos cs.size with h | h
      · rw [h] at hi; omega
      · exact h)
    rw [getElem!_pos cs (i % cs.size) hm]
    exact h1 _ (Array.getElem_mem _))
  simp only [Nat.add_zero] at hst
  obtain ⟨m, rfl⟩ : ∃ m, n = m + 1 := ⟨n - 1, by omega⟩
  refine ⟨(Builtin.zeroCells cs (m + 1)).toList, fun ty => ?_⟩
  subst hz
  simp [Builtin.clear_, run_underlying ht, hv, hst]
end NosP
end Go.Proofs.YtdkpflojdnkbnaaGreatDoor
/- slices.CompactFunc at literals under arranged's closure: of an ascending row each literal once, in place. Conditions: at most a million literals; what they hold lies in other blocks. -/
namespace Go.Proofs.YtdkpflojdnkbnaaGreatDoor
open Go Go.RowKit
namespace NosB
open LexM TermM TermI Kit TermN TermU UniK UniM UnpP NorM NorA NorI NorR NosA NosP
/-- What CompactFunc leaves. -/
def Cptd (ok : Nat → Prop) (g cap : Nat) (L : List (Lt × Value)) (w : World) (e : Ending) (w' : World) : Prop :=
  ∃ C : List (Lt × Value), e = .returned (.slice (some ⟨g, 0, none⟩) C.length cap) ∧ Cm L C L.length ∧ Hd w' g (KL.flat C) ∧ (∀ x ∈ C, KL.inn ok w' x) ∧ Ch g w w' ∧ C.length ≤ L.length
theorem form_L {ok : Nat → Prop} {w : World} {x : Lt × Value} (h : KL.inn ok w x) : ∃ p n c, x.2 = .slice p n c := by
  obtain ⟨p, c, e⟩ := h.1.form
  exact ⟨p, _, c, e⟩
set_option maxRecDepth 100000 in
set_option maxHeartbeats 3200000 in
theorem compactf_any (ok : Nat → Prop) (w : World) (g cap n : Nat) (L : List (Lt × Value)) (hn : L.length = n) (hnn : n ≤ 1000000) (hc1 : n ≤ cap) (hs : SrtL L) (hok : ∀ b, ok b → b < w.heap.size ∧ b ≠ g) (hL : ∀ x ∈ L, KL.inn ok w x) (hd : Hd w g (KL.flat L)) :
    Calls Tryz.prog 75 #[.slice (some ⟨g, 0, none⟩) n cap, .func (.func 76) #[] #[]] w (Cptd ok g cap L w) := by
  have HS := Lib.hid hs
  have HN := Lib.hid hn
  have IN := Lib.hid (fun (w' : World) (h : Ch g w w') (x : Lt × Value) (hx : x ∈ L) => show KL.inn ok w' x from KL.keep (hL x hx) fun b o hb => h.cell (hok b hb).1 (hok b hb).2)
  have KC := Lib.hid (fun (x y : Lt × Value) (hx : x ∈ L) (hy : y ∈ L) (w' : World) (h : Ch g w w') => show Calls Tryz.prog 76 #[.agg #[.bool x.1.1, .string x.1.2.nm, x.2], .agg #[.bool y.1.1, .string y.1.2.nm, y.2]] w' (fun e w'' => e = .returned (.bool (cmpLt x.1 y.1 == 0)) ∧ Gr w' w'') from
    arr1_any x.1 y.1 w.heap.size w' x.2 y.2 h.size ((IN.out w' h x hx).1.weaken fun b hb => (hok b hb).1) ((IN.out w' h y hy).1.weaken fun b hb => (hok b hb).1) (IN.out w' h x hx).2 (IN.out w' h y hy).2)
  have FM := Lib.hid (fun (x : Lt × Value) (hx : x ∈ L) => form_L (hL x hx))
  have HD := Lib.hid hd
  clear hs hL hd hok
  unfold Cptd
  by_cases h2 : n < 2
  · have h2' : (n : Int) < 2 := by omega
    have CM : Hid (Cm L L n) := Lib.hid (by
      have e : L = L.take 1 := by rw [List.take_of_length_le (by omega)]
      refine ⟨?_, fun y => by rw [List.take_of_length_le (by omega)]⟩
      rw [e]
      exact Cm.one.1)
    go_enter Tryz.func75, Tryz.ntmps75
    go_wp2_with fail
    go_ret
    exact ⟨L, by rw [HN.out]; rfl, by rw [HN.out]; exact CM.out, HD.out, fun x hx => IN.out w (Ch.refl g w) x hx, Ch.refl g w, Nat.le_refl _⟩
  have C0 : Hid (Cm L (L.take 1) 1) := Lib.hid Cm.one
  have G0 : Hid (Gr w w) := Lib.hid (Gr.refl w)
  go_enter Tryz.func75, Tryz.ntmps75
  go_wp2_with fail
  go_loopw [5] (fun i wr => ∃ k : Nat, 1 ≤ k ∧ k ≤ n ∧ i = .int .i64 k ∧ Hid (Cm L (L.take k) k) ∧ Hid (Gr w wr)) (fun i _ => n - (intOf i).toNat)
  case atStart => exact ⟨1, Nat.le_refl _, by omega, rfl, C0, G0⟩
  case round =>
    clear C0 G0
    obtain ⟨k, hk1, hk, rfl, hC, hg⟩ := hrel
    have DR := Lib.hid (Hd.gr HD.out hg.out.1)
    have CR : Hid (Ch g w wr) := Lib.hid (Ch.of hg.out.1)
    by_cases hlt : k < n
    · obtain ⟨x, hx⟩ : ∃ x, L[k]? = some x := ⟨L[k]'(by rw [HN.out]; exact hlt), by simp⟩
      obtain ⟨y, hy⟩ : ∃ y, L[k - 1]? = some y := ⟨L[k - 1]'(by rw [HN.out]; omega), by simp⟩
      have hxm := List.mem_of_getElem? hx
      have hym := List.mem_of_getElem? hy
      obtain ⟨px, nx, cx, ex⟩ := FM.out x hxm
      obtain ⟨py, ny, cy, ey⟩ := FM.out y hym
      have K1 := Lib.hid (fun w' h => KC.out x y hxm hym w' h)
      rw [ex, ey] at K1
      obtain ⟨a1, a2, a3, a4, a5, a6, a7⟩ := Hd.at (K := KL) DR.out hx (a := .bool x.1.1) (b := .string x.1.2.nm) (c := .slice px nx cx) (by rw [← ex]; rfl)
      obtain ⟨b1, b2, b3, b4, b5, b6, b7⟩ := Hd.at (K := KL) DR.out hy (a := .bool y.1.1) (b := .string y.1.2.nm) (c := .slice py ny cy) (by rw [← ey]; rfl)
      have i1 : (0 : Int) ≤ (k : Int) - 1 := by omega
      have i2 : ((k : Int) - 1).toNat = k - 1 := by omega
      have i3 : (k : Int) - 1 < n := by omega
      have i5 : IntKind.i64.wrap ((k : Int) - 1) = (k : Int) - 1 := IntWalk.i64_in _ (by omega)
      have HX := Lib.hid hx
      have HY := Lib.hid hy
      have K2 := Lib.hid (fun w' (h : Gr wr w') => K1.out w' (CR.out.below h.1))
      clear K1 hx hy hxm hym a4 a5 a6 b4 b5 b6 b7
      by_cases hz : cmpLt x.1 y.1 = 0
      · have hz' : (cmpLt x.1 y.1 == 0) = true := by rw [hz]; rfl
        rw [hz'] at K2
        have I0 : Hid (In2 L L k (k + 1)) := Lib.hid (In2.start hC.out HY.out HX.out hk1 hz)
        clear hz hz'
        generalize x.1.1 = xb at *
        generalize x.1.2.nm = xn at *
        generalize y.1.1 = yb at *
        generalize y.1.2.nm = yn at *
        go_upto_region 6 with fail
        go_cut [28] (fun s28 wx => s28 = .bool true ∧ Hid (Gr wr wx))
        case first =>
          go_region_with (first | (go_at_call 76; refine (K2.out _ (by first | exact Gr.refl _ | exact Gr.drew _ | exact Gr.drewN _ _)).mono ?_; rintro e w3 ⟨rfl, g3⟩; have G3 : Hid (Gr wr w3) := Lib.hid (by first | exact g3 | exact (Gr.drew _).trans g3 | exact (Gr.drewN _ _).trans g3); clear g3))
          all_goals
            go_wp2_with fail
            go_meet
            exact ⟨rfl, G3⟩
        case rest =>
          obtain ⟨rfl, G3⟩ := hcut
          have D3 := Lib.hid (Hd.gr DR.out G3.out.1)
          have C3 := Lib.hid (CR.out.below G3.out.1)
          clear K2 a1 a2 a3 a7 b1 b2 b3 i1 i2 i3 i5 DR CR hg
          go_wp2_with fail
          go_loopw [5, 7] (fun v5 v7 wq => ∃ (q k2 : Nat) (M : List (Lt × Value)), v5 = .int .i64 q ∧ v7 = .int .i64 k2 ∧ 1 ≤ k2 ∧ k + k2 ≤ n ∧ Hid (In2 L M q (k + k2)) ∧ Hid (Hd wq g (KL.flat M)) ∧ Hid (Ch g w wq)) (fun _ v7 _ => n - (intOf v7).toNat)
          case atStart => exact ⟨k, 1, L, rfl, rfl, Nat.le_refl _, by omega, I0, D3, C3⟩
          case round =>
            clear I0 D3 C3 G3 hC HX HY
            obtain ⟨q, k2, M, rfl, rfl, h1, hle, hI, hD, hC2⟩ := hrel
            have hq := hI.out.2.1
            have hMl := hI.out.1
            by_cases hlt2 : k + k2 < n
            · obtain ⟨x2, hx⟩ : ∃ x, L[k + k2]? = some x := ⟨L[k + k2]'(by rw [HN.out]; exact hlt2), by simp⟩
              obtain ⟨y2, hy⟩ : ∃ y, L[k + k2 - 1]? = some y := ⟨L[k + k2 - 1]'(by rw [HN.out]; omega), by simp⟩
              obtain ⟨u2, hu⟩ : ∃ u, M[q]? = some u := ⟨M[q]'(by rw [hMl, HN.out]; omega), by simp⟩
              have hxM := (hI.out.2.2.2.2.1 (k + k2) (by omega)).trans hx
              have hyM := (hI.out.2.2.2.2.1 (k + k2 - 1) (by omega)).trans hy
              have hxm := List.mem_of_getElem? hx
              have hym := List.mem_of_getElem? hy
              obtain ⟨p1, n1, c1, e1⟩ := FM.out x2 hxm
              obtain ⟨p2, n2, c2, e2⟩ := FM.out y2 hym
              obtain ⟨p3, n3, c3, e3⟩ := FM.out u2 (hI.out.2.2.2.2.2 u2 (List.mem_of_getElem? hu))
              have K1 := Lib.hid (fun w' h => KC.out x2 y2 hxm hym w' h)
              have PX : Hid (∀ w', Hd w' g (KL.flat M) → Hd (((w'.setCell ⟨g, q * 3, none⟩ (.bool x2.1.1)).setCell ⟨g, q * 3 + 1, none⟩ (.string x2.1.2.nm)).setCell ⟨g, q * 3 + 2, none⟩ (.slice p1 n1 c1)) g (KL.flat (M.set q x2))) := Lib.hid (fun w' h => Hd.put3 h (by rw [hMl, HN.out]; omega) (by rw [← e1]; rfl))
              rw [e1, e2] at K1
              have K2 := Lib.hid (fun w' (h : Gr wr w') => K1.out w' (hC2.out.below h.1))
              have FX := Lib.hid (fun w' (h : Gr wr w') => Hd.at (K := KL) (Hd.gr hD.out h.1) hxM (a := .bool x2.1.1) (b := .string x2.1.2.nm) (c := .slice p1 n1 c1) (by rw [← e1]; rfl))
              have FY := Lib.hid (fun w' (h : Gr wr w') => Hd.at (K := KL) (Hd.gr hD.out h.1) hyM (a := .bool y2.1.1) (b := .string y2.1.2.nm) (c := .slice p2 n2 c2) (by rw [← e2]; rfl))
              have FU := Lib.hid (fun w' (h : Gr wr w') => Hd.at (K := KL) (Hd.gr hD.out h.1) hu (a := .bool u2.1.1) (b := .string u2.1.2.nm) (c := .slice p3 n3 c3) (by rw [← e3]; rfl))
              have HX := Lib.hid hx
              have HY := Lib.hid hy
              rw [show (k + k2) * 3 = k * 3 + k2 * 3 by omega] at FX
              rw [show (k + k2 - 1) * 3 = k * 3 + (k2 - 1) * 3 by omega] at FY
              obtain ⟨a1, a2, a3, a4, a5, a6, a7⟩ := FX.out wr (Gr.refl _)
              obtain ⟨b1, b2, b3, b4, b5, b6, b7⟩ := FY.out wr (Gr.refl _)
              have i1 : (0 : Int) ≤ (k2 : Int) - 1 := by omega
              have i2 : ((k2 : Int) - 1).toNat = k2 - 1 := by omega
              have i3 : (k2 : Int) - 1 < (n : Int) - k := by omega
              have i4 : (k2 : Int) < (n : Int) - k := by omega
              have i5 : IntKind.i64.wrap ((k2 : Int) - 1) = (k2 : Int) - 1 := IntWalk.i64_in _ (by omega)
              have i6 : k2 < n - k := by omega
              clear K1 hx hy hu hxm hym hxM hyM hMl a4 a5 a6 b4 b5 b6 b7 e1 e2 e3
              by_cases hz : cmpLt x2.1 y2.1 = 0
              · have hz' : (cmpLt x2.1 y2.1 == 0) = true := by rw [hz]; rfl
                rw [hz'] at K2
                have I2 : Hid (In2 L M q (k + (k2 + 1))) := Lib.hid (hI.out.skip HY.out HX.out hz)
                clear hz hz' PX FX FY FU HX HY
                generalize x2.1.1 = xb2 at *
                generalize x2.1.2.nm = xn2 at *
                generalize y2.1.1 = yb2 at *
                generalize y2.1.2.nm = yn2 at *
                go_upto_region 11 with fail
                go_cut [49] (fun s49 wx => s49 = .bool false ∧ Hid (Gr wr wx))
                case first =>
                  go_region_with (first | (go_at_call 76; refine (K2.out _ (by first | exact Gr.refl _ | exact Gr.drew _ | exact Gr.drewN _ _)).mono ?_; rintro e w3 ⟨rfl, g3⟩; have G3 : Hid (Gr wr w3) := Lib.hid (by first | exact g3 | exact (Gr.drew _).trans g3 | exact (Gr.drewN _ _).trans g3); clear g3))
                  all_goals
                    go_wp2_with fail
                    go_meet
                    exact ⟨rfl, G3⟩
                case rest =>
                  obtain ⟨rfl, G3⟩ := hcut
                  have D5 := Lib.hid (Hd.gr hD.out G3.out.1)
                  have C5 := Lib.hid (hC2.out.below G3.out.1)
                  clear K2 a1 a2 a3 a7 b1 b2 b3 i1 i2 i3 i4 i5 i6
                  go_wp2_with fail
                  go_roundw
                  case rel => exact ⟨q, k2 + 1, M, rfl, by go_num, by omega, by omega, I2, D5, C5⟩
                  case measure => simp [intOf]; omega
              · have hz' : (cmpLt x2.1 y2.1 == 0) = false := by simpa using hz
                rw [hz'] at K2
                have I2 : Hid (In2 L (M.set q x2) (q + 1) (k + (k2 + 1))) := Lib.hid (hI.out.keep HS.out HY.out HX.out hz)
                clear hz hz' HX HY FY
                generalize x2.1.1 = xb2 at *
                generalize x2.1.2.nm = xn2 at *
                generalize y2.1.1 = yb2 at *
                generalize y2.1.2.nm = yn2 at *
                generalize u2.1.1 = ub2 at *
                generalize u2.1.2.nm = un2 at *
                go_upto_region 11 with fail
                go_cut [49] (fun s49 wx => s49 = .bool true ∧ Hid (Gr wr wx))
                case first =>
                  go_region_with (first | (go_at_call 76; refine (K2.out _ (by first | exact Gr.refl _ | exact Gr.drew _ | exact Gr.drewN _ _)).mono ?_; rintro e w3 ⟨rfl, g3⟩; have G3 : Hid (Gr wr w3) := Lib.hid (by first | exact g3 | exact (Gr.drew _).trans g3 | exact (Gr.drewN _ _).trans g3); clear g3))
                  all_goals
                    go_wp2_with fail
                    go_meet
                    exact ⟨rfl, G3⟩
                case rest =>
                  obtain ⟨rfl, G3⟩ := hcut
                  have D5 := Lib.hid (PX.out _ (Hd.gr hD.out G3.out.1))
                  have C5 := Lib.hid ((((hC2.out.below G3.out.1).put (p := ⟨g, q * 3, none⟩) (Or.inl rfl) (.bool xb2)).put (p := ⟨g, q * 3 + 1, none⟩) (Or.inl rfl) (.string xn2)).put (p := ⟨g, q * 3 + 2, none⟩) (Or.inl rfl) (.slice p1 n1 c1))
                  clear K2 a1 a2 a3 a7 b1 b2 b3
                  obtain ⟨a1, a2, a3, a4, a5, a6, a7⟩ := FX.out wc G3.out
                  obtain ⟨b1, b2, b3, b4, b5, b6, b7⟩ := FU.out wc G3.out
                  clear FX FU a4 a5 a6 b7 i1 i2 i3 i5
                  go_wp2_with fail
                  go_roundw
                  case rel => exact ⟨q + 1, k2 + 1, M.set q x2, by go_num, by go_num, by omega, by omega, I2, D5, C5⟩
                  case measure => simp [intOf]; omega
            · have hend : k + k2 = n := by omega
              have I9 : Hid (Cm L (M.take q) n) := Lib.hid (by have := hI.out.2.2.2.1; rw [hend] at this; exact this)
              have hql : (M.take q).length = q := by rw [List.length_take, hMl, HN.out]; omega
              have TD : Hid (Hd wr g (KL.flat (M.take q))) := Lib.hid (by rw [flat_take]; exact Hd.take hD.out _)
              have MI : Hid (∀ x ∈ M.take q, x ∈ L) := Lib.hid (fun x hx => hI.out.2.2.2.2.2 x (List.mem_of_mem_take hx))
              have hfl : (KL.flat M).length = n * 3 := by rw [flat_len, hMl, HN.out]
              obtain ⟨vs, hcl⟩ := clear_any wr 25 47 (.agg #[.bool false, .string ⟨#[]⟩, .slice none 0 0]) #[.bool false, .string ⟨#[]⟩, .slice none 0 0] Tryz.underlying25 (fun w => by kernel_rfl) rfl (by intro v hv; simp at hv; rcases hv with rfl | rfl | rfl <;> rfl) g (q * 3) (n - q) (cap - q) (by omega) (fun j hj => by
                have hj' : j < (n - q) * 3 := hj
                rw [(hD.out (q * 3 + j) _ (List.getElem?_eq_getElem (by omega))).1]; rfl) (fun j hj => by
                have hj' : j < (n - q) * 3 := hj
                exact (hD.out (q * 3 + j) _ (List.getElem?_eq_getElem (by omega))).2)
              have T9 : Hid (Hd (wr.setCells g (q * 3) vs) g (KL.flat (M.take q))) := Lib.hid (by
                have := TD.out
                rw [flat_take] at this ⊢
                exact Hd.cut this vs)
              have C9 := Lib.hid (ch_setCells hC2.out vs (q * 3))
              have HQL := Lib.hid hql
              clear hfl hMl hql TD hD hI
              go_wp2_with fail
              go_ret
              exact ⟨M.take q, by rw [HQL.out]; rfl, by rw [HN.out]; exact I9.out, T9.out, fun x hx => IN.out _ C9.out x (MI.out x hx), C9.out, by rw [HQL.out, HN.out]; omega⟩
      · have hz' : (cmpLt x.1 y.1 == 0) = false := by simpa using hz
        rw [hz'] at K2
        have I0 : Hid (Cm L (L.take (k + 1)) (k + 1)) := Lib.hid (by rw [take_get L k x HX.out]; exact hC.out.keep HS.out HY.out HX.out hk1 hz)
        clear hz hz'
        generalize x.1.1 = xb at *
        generalize x.1.2.nm = xn at *
        generalize y.1.1 = yb at *
        generalize y.1.2.nm = yn at *
        go_upto_region 6 with fail
        go_cut [28] (fun s28 wx => s28 = .bool false ∧ Hid (Gr wr wx))
        case first =>
          go_region_with (first | (go_at_call 76; refine (K2.out _ (by first | exact Gr.refl _ | exact Gr.drew _ | exact Gr.drewN _ _)).mono ?_; rintro e w3 ⟨rfl, g3⟩; have G3 : Hid (Gr wr w3) := Lib.hid (by first | exact g3 | exact (Gr.drew _).trans g3 | exact (Gr.drewN _ _).trans g3); clear g3))
          all_goals
            go_wp2_with fail
            go_meet
            exact ⟨rfl, G3⟩
        case rest =>
          obtain ⟨rfl, G3⟩ := hcut
          have G5 := Lib.hid (hg.out.trans G3.out)
          clear K2 a1 a2 a3 a7 b1 b2 b3 i1 i2 i3 i5 DR CR
          go_wp2_with fail
          go_roundw
          case rel => exact ⟨k + 1, by omega, by omega, by go_num, I0, G5⟩
          case measure => simp [intOf]; omega
    · obtain rfl : k = n := by omega
      have I9 : Hid (Cm L L k) := Lib.hid (by have := hC.out; rwa [List.take_of_length_le (by rw [HN.out]; exact Nat.le_refl _)] at this)
      clear hg
      go_wp2_with fail
      go_ret
      exact ⟨L, by rw [HN.out]; rfl, by rw [HN.out]; exact I9.out, DR.out, fun x hx => IN.out _ CR.out x hx, CR.out, Nat.le_refl _⟩
end NosB
end Go.Proofs.YtdkpflojdnkbnaaGreatDoor
/- arranged of the code: a body's literals ascending, each once, in place. Conditions: the body is a row of the caller's own; at most a thousand literals. -/
namespace Go.Proofs.YtdkpflojdnkbnaaGreatDoor
open Go Go.RowKit
namespace NosC
open LexM TermM TermI Kit TermN TermU UniK UniM UnpP NorM NorA NorI NorR NosA NosP NosB LigY UnqA
/-- What arranged leaves. -/
def Arr (ok0 : Nat → Prop) (base hi : Nat) (L : List (Lt × Value)) (v : Value) (w : World) (e : Ending) (w' : World) : Prop :=
  ∃ (p : Option Addr) (c : Nat) (C : List (Lt × Value)), e = .returned (.slice p C.length c) ∧ C.map (·.1) = arrL (L.map (·.1)) ∧ RowG KL (fun b => ok0 b ∨ (base ≤ b ∧ b < hi)) w' C (.slice p C.length c) ∧ LigY.Lt (fun b => v.ownBlock = some b) w w'
theorem sort_nil (p : Option Addr) (c : Nat) (w : World) : Calls Tryz.prog 74 #[.slice p 0 c, .func (.func 29) #[] #[]] w fun e w' => e = .returned (.tuple #[]) ∧ w' = w :=
  AnyF.slices_SortFunc_none Tryz.sortL p c (.func (.func 29) #[] #[]) w
set_option maxRecDepth 100000 in
set_option maxHeartbeats 1600000 in
theorem compactf_nil (w : World) : Calls Tryz.prog 75 #[.slice none 0 0, .func (.func 76) #[] #[]] w fun e w' => e = .returned (.slice none 0 0) ∧ w' = w := by
  go_enter Tryz.func75, Tryz.ntmps75
  go_wp2_with fail
  go_ret
  exact ⟨rfl, rfl⟩
set_option maxRecDepth 100000 in
set_option maxHeartbeats 1600000 in
theorem arranged_any (ok0 : Nat → Prop) (base : Nat) (w0 w : World) (L : List (Lt × Value)) (v : Value) (hO : OwnX KL ok0 base w0 L v) (hk : Below w0.heap.size w0 w) (hl : L.length ≤ 1000) :
    Calls Tryz.prog 38 #[v] w (Arr ok0 base w0.heap.size L v w) := by
  obtain ⟨h1, ok, h2, h3⟩ := hO
  have hlt := h1.lt
  replace h3 : ∀ x ∈ L, KL.inn ok w x := fun x hx => KL.keep (h3 x hx) fun b o hb => hk.cell (p := ⟨b, o, none⟩) (h2 b hb).2.1
  replace h1 := TermF.own_below h1 hk
  have h1' := h1
  have hz0 := hk.size
  unfold Arr
  rcases h1.2 with ⟨rfl, hz⟩ | ⟨g, cap, cur, rfl, e2, e3, e4, e5, e6, e7⟩
  · have K0 := Lib.hid (sort_nil none 0 w)
    have K1 := Lib.hid (compactf_nil w)
    obtain rfl : L = [] := List.eq_nil_of_length_eq_zero hz
    clear h1 h1' h2 h3 hlt hz hl
    go_enter Tryz.func38, Tryz.ntmps38
    go_wp2_with fail
    refine K0.out.mono ?_
    rintro e w2 ⟨rfl, rfl⟩
    go_wp2_with fail
    refine K1.out.mono ?_
    rintro e w3 ⟨rfl, rfl⟩
    go_wp2_with fail
    go_ret
    exact ⟨none, 0, [], rfl, by simp [arrL], RowG.nil _ _, Lt.of (Below.refl _ _)⟩
  · have hgl := (hlt g rfl).2
    have hok : ∀ b, ok b → b < w.heap.size ∧ b ≠ g := fun b hb => ⟨Nat.lt_of_lt_of_le (h2 b hb).2.1 hz0, fun e => (h2 b hb).2.2 (by rw [e]; rfl)⟩
    have K0 : Hid (Calls Tryz.prog 74 #[.slice (some ⟨g, 0, none⟩) L.length cap, .func (.func 29) #[] #[]] w (Srtd ok g L w)) := Lib.hid (by
      by_cases hne : L = []
      · subst hne
        refine (sort_nil (some ⟨g, 0, none⟩) cap w).mono ?_
        rintro e w2 ⟨rfl, rfl⟩
        exact ⟨[], rfl, List.Perm.refl _, fun i j x y _ h => by simp at h, fun j u h => by simp [Kd.flat] at h, fun x h => by simp at h, Ch.refl _ _⟩
      · exact sortl_any ok w base g cap L hok h3 h1' (by omega) hne)
    have OK := Lib.hid hok
    have OK2 : Hid (∀ b, ok b → ok0 b ∨ (base ≤ b ∧ b < w0.heap.size)) := Lib.hid (fun b hb => (h2 b hb).1.imp id fun h => ⟨h, (h2 b hb).2.1⟩)
    clear h1 h1' h2 h3 hlt hok e3 e6 e7
    go_enter Tryz.func38, Tryz.ntmps38
    go_wp2_with fail
    refine K0.out.mono ?_
    rintro e w2 ⟨L', rfl, hp, hs, hd, hin, hch⟩
    have HC := Lib.hid hch
    have K1 := Lib.hid (compactf_any ok w2 g cap L.length L' hp.length_eq (by omega) e4 hs (fun b hb => ⟨Nat.lt_of_lt_of_le (OK.out b hb).1 hch.size, (OK.out b hb).2⟩) hin hd)
    have PM : Hid (∀ y, y ∈ L'.map (·.1) ↔ y ∈ L.map (·.1)) := Lib.hid (fun y => (hp.map (·.1)).mem_iff)
    have PL := Lib.hid hp.length_eq
    clear hp hs hd hin hch K0
    go_wp2_with fail
    refine K1.out.mono ?_
    rintro e w3 ⟨C, rfl, hcm, hd, hin, hch, hle⟩
    have C3 := Lib.hid (HC.out.trans hch)
    have EQ : Hid (C.map (·.1) = arrL (L.map (·.1))) := Lib.hid (arr_eq hcm.1 fun y => by
      have := hcm.2 y
      rw [List.take_of_length_le (Nat.le_refl _)] at this
      exact this.trans (PM.out y))
    have hCl : C.length ≤ cap := by rw [PL.out] at hle; omega
    have RW : Hid (RowG KL (fun b => ok0 b ∨ (base ≤ b ∧ b < w0.heap.size)) w3 C (.slice (some ⟨g, 0, none⟩) C.length cap)) := Lib.hid (Hd.row hd (Or.inr ⟨e2, hgl⟩) (fun x hx => KL.wide (hin x hx) OK2.out) hCl e5)
    clear hcm hd hin hch hle hCl K1
    go_wp2_with fail
    go_ret
    exact ⟨_, cap, C, rfl, EQ.out, RW.out, Lt.grown (Lt.of (Below.refl _ _)) C3.out fun k hk => Or.inl (show some g = some k from hk)⟩
end NosC
end Go.Proofs.YtdkpflojdnkbnaaGreatDoor
