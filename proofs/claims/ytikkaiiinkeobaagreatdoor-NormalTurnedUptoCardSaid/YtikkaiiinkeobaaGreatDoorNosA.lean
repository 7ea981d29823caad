/- The library's sort at literals, under compareLiterals: the row holds them again, ascending. Conditions: the row is the caller's own; fewer than 2^62 literals, at least one. -/
import Derived.Test.YtikkaiiinkeobaaGreatDoorGAL
import Derived.Test.YtikkaiiinkeobaaGreatDoorLitSh
namespace Go.Proofs.YtikkaiiinkeobaaGreatDoor
open Go Go.RowKit Go.Sort Go.Lib Go.Shelf
namespace NosA
open LexM TermM TermI Kit TermN TermQ TermR TermU UniK UniM UnpP NorM NorA
/-- A literal with the slice value of its list, that lies in blocks of a kind. -/
abbrev El (ok : Nat → Prop) (w : World) := { x : Lt × Value // KL.inn ok w x }
def encE {ok : Nat → Prop} {w : World} (x : El ok w) : List Value := KL.cells x.1
def cfE {ok : Nat → Prop} {w : World} (x y : El ok w) : Int := cmpLt x.1.1 y.1.1
theorem swo {ok : Nat → Prop} {w : World} : SWO (ltOf (cfE (ok := ok) (w := w))) where
  irrefl x := by unfold ltOf cfE; rw [(lt_zero _ _).2 rfl]; rfl
  trans x y z h1 h2 := by
    unfold ltOf cfE at *
    have := tri_lt x.1.1 y.1.1 z.1.1
    unfold Tri at this
    simp at *
    omega
  ntrans x y z h1 h2 := by
    unfold ltOf cfE at *
    have := tri_lt x.1.1 y.1.1 z.1.1
    unfold Tri at this
    simp at *
    omega
theorem cell_sortK {α : Type} [Inhabited α] (enc : α → List Value) (k : Nat) (w : World) (g m : Nat) (dk : Array α) (os : Array Obj) (b o : Nat) (hb : b ≠ g) (hl : b < w.heap.size) : (sortWorldK enc k w g 0 m dk os).cell? ⟨b, o, none⟩ = w.cell? ⟨b, o, none⟩ := by
  unfold sortWorldK
  rw [cell?_grow _ _ _ (by rw [size_putRowK]; exact hl), cell?_putRowK_other _ _ _ _ _ _ _ hb]
  rfl
theorem heap_sortK {α : Type} [Inhabited α] (enc : α → List Value) (k : Nat) (w : World) (g m : Nat) (dk : Array α) (os : Array Obj) (b : Nat) (hb : b ≠ g) (hl : b < w.heap.size) : (sortWorldK enc k w g 0 m dk os).heap[b]? = w.heap[b]? := by
  unfold sortWorldK Sort.grow
  show (((putRowK enc k (Sort.ahead w m) g 0 dk).heap) ++ os)[b]? = _
  rw [Array.getElem?_append_left (by rw [size_putRowK]; exact hl)]
  simp [putRowK, putRow, mapBlock, Sort.ahead, Array.getElem?_modify, Ne.symm hb]
theorem ch_sortK {α : Type} [Inhabited α] (enc : α → List Value) (k : Nat) (w : World) (g m : Nat) (dk : Array α) (os : Array Obj) : Ch g w (sortWorldK enc k w g 0 m dk os) :=
  ⟨rfl, rfl, rfl, size_sortWorldK_c enc k w g 0 m dk os, fun b hb hne => heap_sortK enc k w g m dk os b (fun e => hne (by rw [e])) hb⟩
theorem isAgg : ∀ w, (Go.isAgg (Tryz.sortL_ren.t 24)).run Tryz.prog w = .ok true w := fun w => by kernel_rfl
theorem sizeOf : ∀ w, (Go.sizeOf (Tryz.sortL_ren.t 24)).run Tryz.prog w = .ok 3 w := fun w => by kernel_rfl
/-- These cells lie at the beginning of a block, none of them frozen. -/
def Hd (w : World) (g : Nat) (cs : List Value) : Prop := ∀ j u, cs[j]? = some u → w.cell? ⟨g, j, none⟩ = some u ∧ w.frozen? ⟨g, j, none⟩ = false
theorem Hd.grown {w w' : World} {g : Nat} {cs : List Value} {r : Option Nat} (h : Hd w g cs) (hg : w.grownBy w' r) (hr : r ≠ some g) : Hd w' g cs := fun j u hu => by
  obtain ⟨h1, h2⟩ := h j u hu
  have hb := hg.block g (World.block_lt_of_cell? w ⟨g, j, none⟩ h1) (fun e => hr e.symm)
  exact ⟨(World.cell?_of_block (a := ⟨g, j, none⟩) hb).trans h1, (World.frozen?_of_block (a := ⟨g, j, none⟩) hb).trans h2⟩
theorem Hd.gr {w w' : World} {g : Nat} {cs : List Value} (h : Hd w g cs) (k : Below w.heap.size w w') : Hd w' g cs := fun j u hu => by
  obtain ⟨h1, h2⟩ := h j u hu
  have hb := World.block_lt_of_cell? w ⟨g, j, none⟩ h1
  exact ⟨(k.cell (p := ⟨g, j, none⟩) hb).trans h1, (k.frozen (p := ⟨g, j, none⟩) hb).trans h2⟩
theorem Hd.set {w : World} {g : Nat} {cs : List Value} (h : Hd w g cs) {i : Nat} (hi : i < cs.length) (u : Value) : Hd (w.setCell ⟨g, i, none⟩ u) g (cs.set i u) := fun j v hv => by
  have hi' := h i _ (List.getElem?_eq_getElem hi)
  rw [List.getElem?_set] at hv
  split at hv
  · rename_i e
    subst e
    obtain rfl := Option.some.inj hv
    exact ⟨World.cell?_setCell_same _ _ _ hi'.1, by rw [World.frozen?_setCell]; exact hi'.2⟩
  · rename_i e
    obtain ⟨h1, h2⟩ := h j v hv
    exact ⟨(World.cell?_setCell_other _ _ _ _ (fun e' => e (by injection e'))).trans h1, by rw [World.frozen?_setCell]; exact h2⟩
/-- What the sort leaves. -/
def Srtd (ok : Nat → Prop) (g : Nat) (L : List (Lt × Value)) (w : World) (e : Ending) (w' : World) : Prop :=
  ∃ L' : List (Lt × Value), e = .returned (.tuple #[]) ∧ L'.Perm L ∧ (∀ (i j : Nat) (x y : Lt × Value), i < j → L'[i]? = some x → L'[j]? = some y → cmpLt x.1 y.1 ≤ 0) ∧
    Hd w' g (KL.flat L') ∧ (∀ x ∈ L', KL.inn ok w' x) ∧ Ch g w w'
set_option maxHeartbeats 1600000 in
theorem sortl_any (ok : Nat → Prop) (w : World) (base g cap : Nat) (L : List (Lt × Value)) (hok : ∀ b, ok b → b < w.heap.size ∧ b ≠ g) (hL : ∀ x ∈ L, KL.inn ok w x)
    (hown : w.ownsRow base 47 3 (.slice (some ⟨g, 0, none⟩) L.length cap) L.length (KL.flat L)) (hz : L.length < 4611686018427387904) (hne : L ≠ []) :
    Calls Tryz.prog 74 #[.slice (some ⟨g, 0, none⟩) L.length cap, .func (.func 29) #[] #[]] w (Srtd ok g L w) := by
  have hgl := (hown.lt g rfl).2
  let D : List (El ok w) := L.attach.map fun x => ⟨x.1, hL x.1 x.2⟩
  have hDL : D.map (·.1) = L := by simp only [D, List.map_map, Function.comp_def]; exact List.attach_map_subtype_val L
  have hDl : D.length = L.length := by rw [← hDL]; simp
  obtain ⟨x0, hx0⟩ : ∃ x0, x0 ∈ D := by
    cases hD : D with
    | nil => rw [hD] at hDl; exact absurd (List.eq_nil_of_length_eq_zero hDl.symm) hne
    | cons a r => exact ⟨a, by simp⟩
  letI : Inhabited (El ok w) := ⟨x0⟩
  have hget : ∀ (i : Nat) (x : Lt × Value), L[i]? = some x → (D.toArray[i]!).1 = x := by
    intro i x hx
    rw [← hDL, List.getElem?_map] at hx
    obtain ⟨y, h1, h2⟩ := Option.map_eq_some_iff.1 hx
    have hi := (List.getElem?_eq_some_iff.1 h1)
    obtain ⟨hi, h3⟩ := hi
    rw [getElem!_pos _ i (by simpa using hi)]
    simp [h3, h2]
  have hH : HoldsK encE 3 w g 0 D.toArray := by
    intro j hj
    rw [size_flatK] at hj
    have hj' : j < L.length * 3 := by rw [← hDl]; simpa using hj
    rw [get_flatK _ _ _ _ hj]
    obtain ⟨x, hx⟩ : ∃ x, L[j / 3]? = some x := ⟨L[j / 3]'(by omega), by simp⟩
    have he := hget _ x hx
    have h3 : j % 3 < (KL.cells x).length := by rw [KL.len]; omega
    have f := flat_get (K := KL) L (j / 3) x hx (j % 3) ((KL.cells x)[j % 3]) (List.getElem?_eq_getElem h3)
    rw [show j / 3 * 3 + j % 3 = j by omega] at f
    refine ⟨?_, hown.frozenAt _⟩
    rw [Nat.zero_add, hown.cellAt j hj', f]
    unfold encE
    rw [he, getElem!_pos (KL.cells x) (j % 3) h3]
    rfl
  have hcmp : CmpLays Tryz.prog 29 #[] (encE (ok := ok) (w := w)) 3 cfE g 0 D.toArray.size w := by
    intro m os dk hdk x y
    have fr : ∀ b o, ok b → (sortWorldK encE 3 w g 0 m dk os).cell? ⟨b, o, none⟩ = w.cell? ⟨b, o, none⟩ := fun b o hb => cell_sortK _ _ _ _ _ _ _ _ _ (hok b hb).2 (hok b hb).1
    have hc := lits_any x.1.1 y.1.1 w.heap.size (sortWorldK encE 3 w g 0 m dk os) x.1.2 y.1.2 (size_sortWorldK_c encE 3 w g 0 m dk os) ((x.2.1.frame fr).weaken fun b hb => (hok b hb).1) ((y.2.1.frame fr).weaken fun b hb => (hok b hb).1) x.2.2 y.2.2
    exact hc.mono fun e w' ⟨he, hg⟩ => ⟨he, TermP.Gr.grow hg⟩
  have eg : ∀ args w, (callFunc 29 args).run Tryz.prog w = .ok (.enter 29 args) w := enters_of Tryz.func29 (by kernel_rfl) rfl
  have hcon := AnyQ.slices_SortFunc Tryz.sortL 3 isAgg sizeOf (encE (ok := ok) (w := w)) (fun _ => rfl) (fun x v hv => by
    obtain ⟨p, c, hf⟩ := x.2.1.form
    have hv' : v ∈ [Value.bool x.1.1.1, .string x.1.1.2.nm, x.1.2] := hv
    rw [hf] at hv'
    exact one_L _ _ _ _ _ v hv') cfE swo 29 #[] g 0 cap D.toArray w eg hcmp hH hgl (by simp [hDl]; omega)
  have hsz : D.toArray.size = L.length := by simp [hDl]
  rw [hsz] at hcon
  refine Calls.mono (show Calls Tryz.prog 74 _ w _ from hcon) ?_
  rintro e w' ⟨he, d', n, os, hp, hs, rfl⟩
  obtain ⟨p1, p2, p3⟩ := hp
  have e1 : (d'.extract 0 L.length).toList = d'.toList := by rw [← hsz, ← p1]; simp
  have e2 : (D.toArray.extract 0 L.length).toList = D := by rw [← hsz]; simp
  rw [e1, e2] at p3
  have hlen : d'.toList.length = L.length := by rw [← hsz, ← p1]; simp
  have hH' := holdsK_sortWorldK_c encE 3 w g 0 D.toArray d' n os hH hgl p1
  have hat : ∀ (i : Nat) (y : El ok w), d'.toList[i]? = some y → i < d'.size ∧ d'[i]! = y := by
    intro i y hy
    obtain ⟨hi, h2⟩ := List.getElem?_eq_some_iff.1 hy
    have hi' : i < d'.size := by simpa using hi
    exact ⟨hi', by rw [getElem!_pos _ i hi']; simpa using h2⟩
  have key : ∀ (i : Nat) (x : Lt × Value), (d'.toList.map (·.1))[i]? = some x → ∃ y : El ok w, d'.toList[i]? = some y ∧ y.1 = x := by
    intro i x hx
    rw [List.getElem?_map] at hx
    obtain ⟨y, a, b⟩ := Option.map_eq_some_iff.1 hx
    exact ⟨y, a, b⟩
  refine ⟨d'.toList.map (·.1), he, ?_, ?_, ?_, ?_, ch_sortK _ _ _ _ _ _ _⟩
  · have := p3.map (·.1)
    rwa [hDL] at this
  · intro i j x y hij hx hy
    obtain ⟨x', hx', rfl⟩ := key i x hx
    obtain ⟨y', hy', rfl⟩ := key j y hy
    obtain ⟨a1, a2⟩ := hat i x' hx'
    obtain ⟨b1, b2⟩ := hat j y' hy'
    have h := hs i j (Nat.zero_le _) hij (by omega)
    rw [a2, b2] at h
    unfold ltOf cfE at h
    have h2 := lt_neg y'.1.1 x'.1.1
    simp at h
    omega
  · intro j u hu
    have hj : j < (d'.toList.map (·.1)).length * 3 := by
      have := (List.getElem?_eq_some_iff.1 hu).1
      rwa [flat_len] at this
    obtain ⟨x, hx⟩ : ∃ x, (d'.toList.map (·.1))[j / 3]? = some x := ⟨(d'.toList.map (·.1))[j / 3]'(by omega), by rw [List.getElem?_eq_getElem (by omega)]⟩
    obtain ⟨y, hy, rfl⟩ := key _ x hx
    obtain ⟨a1, a2⟩ := hat _ y hy
    have h3 : j % 3 < (KL.cells y.1).length := by rw [KL.len]; omega
    have f := flat_get (K := KL) (d'.toList.map (·.1)) (j / 3) y.1 hx (j % 3) ((KL.cells y.1)[j % 3]) (List.getElem?_eq_getElem h3)
    rw [show j / 3 * 3 + j % 3 = j by omega] at f
    rw [f] at hu
    obtain rfl := Option.some.inj hu
    have c := hH'.cell (i := j / 3) (c := j % 3) a1 (by omega)
    rw [show 0 + j / 3 * 3 + j % 3 = j by omega, a2] at c
    unfold encE at c
    rw [getElem!_pos (KL.cells y.1) (j % 3) h3] at c
    exact c
  · intro x hx
    obtain ⟨y, hy, rfl⟩ := List.mem_map.1 hx
    exact KL.keep y.2 fun b o hb => cell_sortK _ _ _ _ _ _ _ _ _ (hok b hb).2 (hok b hb).1
end NosA
end Go.Proofs.YtikkaiiinkeobaaGreatDoor
