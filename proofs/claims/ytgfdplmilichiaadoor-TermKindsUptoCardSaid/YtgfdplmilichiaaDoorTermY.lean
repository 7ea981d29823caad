/- The library's sort at terms, under Compare: the row holds them again, ascending. Condition: the row is the caller's own; fewer than a million terms. -/
import Derived.Test.YtgfdplmilichiaaDoorTermX
import Derived.Test.YtgfdplmilichiaaDoorTermSh
namespace Go.Proofs.YtgfdplmilichiaaDoor
open Go Go.RowKit Go.Sort Go.Lib Go.Shelf
namespace TermY
open LexM TermM TermI Kit TermN TermQ TermR TermU
/-- A term with the slice value of its list, that lies in blocks below B. -/
abbrev El (B : Nat) (w : World) := { x : Tm × Value // SlIn (· < B) w x.1.args x.2 ∧ x.1.nm.size ≤ maxLen }
def encE {B : Nat} {w : World} (x : El B w) : List Value := [.string x.1.1.nm, x.1.2]
def cfE {B : Nat} {w : World} (x y : El B w) : Int := cmpT x.1.1 y.1.1
theorem swo {B : Nat} {w : World} : SWO (ltOf (cfE (B := B) (w := w))) where
  irrefl x := by unfold ltOf cfE; rw [(cmp_zero _ _).2 rfl]; rfl
  trans x y z h1 h2 := by
    unfold ltOf cfE at *
    have := tri_cmp x.1.1 y.1.1 z.1.1
    unfold Tri at this
    simp at *
    omega
  ntrans x y z h1 h2 := by
    unfold ltOf cfE at *
    have := tri_cmp x.1.1 y.1.1 z.1.1
    unfold Tri at this
    simp at *
    omega
theorem cell_sortK {α : Type} [Inhabited α] (enc : α → List Value) (k : Nat) (w : World) (g m : Nat) (dk : Array α) (os : Array Obj) (b o : Nat) (hb : b ≠ g) (hl : b < w.heap.size) : (sortWorldK enc k w g 0 m dk os).cell? ⟨b, o, none⟩ = w.cell? ⟨b, o, none⟩ := by
  unfold sortWorldK
  rw [cell?_grow _ _ _ (by rw [size_putRowK]; exact hl), cell?_putRowK_other _ _ _ _ _ _ _ hb]
  rfl
theorem isAgg : ∀ w, (Go.isAgg (Tryd.sortT_ren.t 24)).run Tryd.prog w = .ok true w := fun w => by kernel_rfl
theorem sizeOf : ∀ w, (Go.sizeOf (Tryd.sortT_ren.t 24)).run Tryd.prog w = .ok 2 w := fun w => by kernel_rfl
/-- What the sort leaves: the same terms, ascending; of what was there only the row has changed. -/
def Sorted (B g cap : Nat) (L : List (Tm × Value)) (w : World) (e : Ending) (w' : World) : Prop :=
  ∃ L' : List (Tm × Value), e = .returned (.tuple #[]) ∧ L'.Perm L ∧ (∀ (i j : Nat) (x y : Tm × Value), i < j → L'[i]? = some x → L'[j]? = some y → cmpT x.1 y.1 ≤ 0) ∧
    SlIn (fun b => b < B ∨ b = g) w' (L'.map (·.1)) (.slice (some ⟨g, 0, none⟩) L.length cap) ∧ (∀ k, k < w.heap.size → k ≠ g → w'.heap[k]? = w.heap[k]?) ∧ Below g w w'
theorem heap_sortK {α : Type} [Inhabited α] (enc : α → List Value) (k : Nat) (w : World) (g m : Nat) (dk : Array α) (os : Array Obj) (b : Nat) (hb : b ≠ g) (hl : b < w.heap.size) : (sortWorldK enc k w g 0 m dk os).heap[b]? = w.heap[b]? := by
  unfold sortWorldK Sort.grow
  show (((putRowK enc k (Sort.ahead w m) g 0 dk).heap) ++ os)[b]? = _
  rw [Array.getElem?_append_left (by rw [size_putRowK]; exact hl)]
  simp [putRowK, putRow, mapBlock, Sort.ahead, Array.getElem?_modify, Ne.symm hb]
theorem below_sortK {α : Type} [Inhabited α] (enc : α → List Value) (k : Nat) (w : World) (g m : Nat) (dk : Array α) (os : Array Obj) (hg : g ≤ w.heap.size) : Below g w (sortWorldK enc k w g 0 m dk os) :=
  ⟨rfl, rfl, rfl, size_sortWorldK_c enc k w g 0 m dk os, fun b hb => heap_sortK enc k w g m dk os b (by omega) (by omega)⟩
set_option maxHeartbeats 1600000 in
theorem sort_any (B : Nat) (w : World) (base g cap : Nat) (L : List (Tm × Value)) (hB : B ≤ g) (hL : ∀ x ∈ L, SlIn (· < B) w x.1.args x.2 ∧ x.1.nm.size ≤ maxLen)
    (hown : w.ownsRow base 28 2 (.slice (some ⟨g, 0, none⟩) L.length cap) L.length (flatL L)) (hz : L.length < 4611686018427387904) (hne : L ≠ []) :
    Calls Tryd.prog 70 #[.slice (some ⟨g, 0, none⟩) L.length cap, .func (.func 36) #[] #[]] w (Sorted B g cap L w) := by
  have hgl := (hown.lt g rfl).2
  let D : List (El B w) := L.attach.map fun x => ⟨x.1, hL x.1 x.2⟩
  have hDL : D.map (·.1) = L := by simp only [D, List.map_map, Function.comp_def]; exact List.attach_map_subtype_val L
  have hDl : D.length = L.length := by rw [← hDL]; simp
  obtain ⟨x0, hx0⟩ : ∃ x0, x0 ∈ D := by
    cases hD : D with
    | nil => rw [hD] at hDl; exact absurd (List.eq_nil_of_length_eq_zero hDl.symm) hne
    | cons a r => exact ⟨a, by simp⟩
  letI : Inhabited (El B w) := ⟨x0⟩
  have hget : ∀ (i : Nat) (x : Tm × Value), L[i]? = some x → (D.toArray[i]!).1 = x := by
    intro i x hx
    rw [← hDL, List.getElem?_map] at hx
    obtain ⟨y, h1, h2⟩ := Option.map_eq_some_iff.1 hx
    have hi := (List.getElem?_eq_some_iff.1 h1)
    obtain ⟨hi, h3⟩ := hi
    rw [getElem!_pos _ i (by simpa using hi)]
    simp [h3, h2]
  have hH : HoldsK encE 2 w g 0 D.toArray := by
    intro j hj
    rw [size_flatK] at hj
    have hj' : j < L.length * 2 := by rw [← hDl]; simpa using hj
    rw [get_flatK _ _ _ _ hj]
    obtain ⟨x, hx⟩ : ∃ x, L[j / 2]? = some x := ⟨L[j / 2]'(by omega), by simp⟩
    obtain ⟨f1, f2⟩ := flatL_get L _ x hx
    have he := hget _ x hx
    refine ⟨?_, hown.frozenAt _⟩
    rw [Nat.zero_add, hown.cellAt j hj']
    unfold encE
    rw [he]
    rcases Nat.mod_two_eq_zero_or_one j with h | h
    · have e : j = j / 2 * 2 := by omega
      rw [h]
      rw [← e] at f1
      rw [f1]
      rfl
    · have e : j = j / 2 * 2 + 1 := by omega
      rw [h]
      rw [← e] at f2
      rw [f2]
      rfl
  have hcmp : CmpLays Tryd.prog 36 #[] (encE (B := B) (w := w)) 2 cfE g 0 D.toArray.size w := by
    intro m os dk hdk x y
    have fr : ∀ b o, b < B → (sortWorldK encE 2 w g 0 m dk os).cell? ⟨b, o, none⟩ = w.cell? ⟨b, o, none⟩ := fun b o hb => cell_sortK _ _ _ _ _ _ _ _ _ (by omega) (by omega)
    have hc := cmp_any x.1.1 B (sortWorldK encE 2 w g 0 m dk os) x.1.2 y.1.1 y.1.2 (Nat.le_trans (by omega) (size_sortWorldK_c encE 2 w g 0 m dk os)) x.2.2 y.2.2 (x.2.1.frame fr) (y.2.1.frame fr)
    exact hc.mono fun e w' ⟨he, hg⟩ => ⟨he, TermP.Gr.grow hg⟩
  have eg : ∀ args w, (callFunc 36 args).run Tryd.prog w = .ok (.enter 36 args) w := enters_of Tryd.func36 (by kernel_rfl) rfl
  have hcon := AnyQ.slices_SortFunc Tryd.sortT 2 isAgg sizeOf (encE (B := B) (w := w)) (fun _ => rfl) (fun x v hv => by
    obtain ⟨p, c, hf⟩ := x.2.1.form
    unfold encE at hv
    rw [hf] at hv
    simp at hv
    rcases hv with rfl | rfl <;> rfl) cfE swo 36 #[] g 0 cap D.toArray w eg hcmp hH hgl (by simp [hDl]; omega)
  have hsz : D.toArray.size = L.length := by simp [hDl]
  rw [hsz] at hcon
  refine Calls.mono (show Calls Tryd.prog 70 _ w _ from hcon) ?_
  rintro e w' ⟨he, d', n, os, hp, hs, rfl⟩
  obtain ⟨p1, p2, p3⟩ := hp
  have e1 : (d'.extract 0 L.length).toList = d'.toList := by rw [← hsz, ← p1]; simp
  have e2 : (D.toArray.extract 0 L.length).toList = D := by rw [← hsz]; simp
  rw [e1, e2] at p3
  have hlen : d'.toList.length = L.length := by rw [← hsz, ← p1]; simp
  have hH' := holdsK_sortWorldK_c encE 2 w g 0 D.toArray d' n os hH hgl p1
  have hat : ∀ (i : Nat) (y : El B w), d'.toList[i]? = some y → i < d'.size ∧ d'[i]! = y := by
    intro i y hy
    obtain ⟨hi, h2⟩ := List.getElem?_eq_some_iff.1 hy
    have hi' : i < d'.size := by simpa using hi
    exact ⟨hi', by rw [getElem!_pos _ i hi']; simpa using h2⟩
  have key : ∀ (i : Nat) (x : Tm × Value), (d'.toList.map (·.1))[i]? = some x → ∃ y : El B w, d'.toList[i]? = some y ∧ y.1 = x := by
    intro i x hx
    rw [List.getElem?_map] at hx
    obtain ⟨y, a, b⟩ := Option.map_eq_some_iff.1 hx
    exact ⟨y, a, b⟩
  refine ⟨d'.toList.map (·.1), he, ?_, ?_, ?_, fun k hk hne => heap_sortK _ _ _ _ _ _ _ _ hne hk, below_sortK _ _ _ _ _ _ _ (by omega)⟩
  · have := p3.map (·.1)
    rwa [hDL] at this
  · intro i j x y hij hx hy
    obtain ⟨x', hx', rfl⟩ := key i x hx
    obtain ⟨y', hy', rfl⟩ := key j y hy
    obtain ⟨a1, a2⟩ := hat i x' hx'
    obtain ⟨b1, b2⟩ := hat j y' hy'
    have h := hs i j (Nat.zero_le _) hij (by omega)
    rw [a2, b2] at h
    unfold ltOf cfE at h
    have h2 := cmp_neg y'.1.1 x'.1.1
    simp at h
    omega
  · have hm : ((d'.toList.map (·.1)).map (·.1)).length = L.length := by simp; omega
    rw [← hm]
    have key2 : ∀ (i : Nat) (t : Tm), ((d'.toList.map (·.1)).map (·.1))[i]? = some t → ∃ y : El B w, d'.toList[i]? = some y ∧ y.1.1 = t := by
      intro i t ht
      rw [List.getElem?_map] at ht
      obtain ⟨x, a, b⟩ := Option.map_eq_some_iff.1 ht
      obtain ⟨y, c, d⟩ := key i x a
      exact ⟨y, c, by rw [d, b]⟩
    have hcap : L.length ≤ cap ∧ cap ≤ maxLen := by
      rcases hown.2 with ⟨h, _⟩ | ⟨g', cap', cur, h, _, _, h4, h5, _⟩
      · cases h
      · injection h with _ _ h
        subst h
        exact ⟨h4, h5⟩
    refine .mk _ cap _ (fun i => (d'[i]!).1.2) g 0 (fun _ => ⟨rfl, Or.inr rfl⟩) (fun h => by cases h) (by rw [hm]; exact hcap.1) hcap.2 (fun i t ht => ?_) (fun i t ht => ?_)
    · obtain ⟨y, hy, rfl⟩ := key2 i t ht
      obtain ⟨a1, a2⟩ := hat i y hy
      have c0 := (hH'.cell (i := i) (c := 0) a1 (by omega)).1
      have c1 := (hH'.cell (i := i) (c := 1) a1 (by omega)).1
      rw [a2] at c0 c1
      show _ ∧ _ = some (d'[i]!).1.2 ∧ _
      rw [a2]
      exact ⟨c0, c1, y.2.2⟩
    · obtain ⟨y, hy, rfl⟩ := key2 i t ht
      obtain ⟨a1, a2⟩ := hat i y hy
      show SlIn _ _ _ (d'[i]!).1.2
      rw [a2]
      exact (y.2.1.frame fun b o hb => cell_sortK _ _ _ _ _ _ _ _ _ (by omega) (by omega)).weaken fun b hb => Or.inl hb
end TermY
end Go.Proofs.YtgfdplmilichiaaDoor
