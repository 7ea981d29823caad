/- The library's sort at rules, under Compare: the row holds them again, ascending. Conditions: the row is the caller's own; fewer than 2^62 rules, at least one. -/
import Derived.Test.YtikkaiiinkeobaaGreatDoorNosA
import Derived.Test.YtikkaiiinkeobaaGreatDoorRulSh
namespace Go.Proofs.YtikkaiiinkeobaaGreatDoor
open Go Go.RowKit Go.Sort Go.Lib Go.Shelf
namespace NosG
open LexM TermM TermI Kit TermN TermQ TermR TermU UniK UniM UnpP NorM NorA NosA
/-- A rule with the slice values of its lists, that lies in blocks of a kind. -/
abbrev ElR (ok : Nat → Prop) (w : World) := { x : Rl × Value × Value // KR.inn ok w x }
def encR {ok : Nat → Prop} {w : World} (x : ElR ok w) : List Value := KR.cells x.1
def cfR {ok : Nat → Prop} {w : World} (x y : ElR ok w) : Int := cmpR x.1.1 y.1.1
theorem swoR {ok : Nat → Prop} {w : World} : SWO (ltOf (cfR (ok := ok) (w := w))) where
  irrefl x := by unfold ltOf cfR; rw [(r_zero _ _).2 rfl]; rfl
  trans x y z h1 h2 := by
    unfold ltOf cfR at *
    have := tri_r x.1.1 y.1.1 z.1.1
    unfold Tri at this
    simp at *
    omega
  ntrans x y z h1 h2 := by
    unfold ltOf cfR at *
    have := tri_r x.1.1 y.1.1 z.1.1
    unfold Tri at this
    simp at *
    omega
theorem isAggR : ∀ w, (Go.isAgg (Tryz.sortR_ren.t 24)).run Tryz.prog w = .ok true w := fun w => by kernel_rfl
theorem sizeOfR : ∀ w, (Go.sizeOf (Tryz.sortR_ren.t 24)).run Tryz.prog w = .ok 3 w := fun w => by kernel_rfl
/-- What the sort leaves. -/
def SrtdR (ok : Nat → Prop) (g : Nat) (L : List (Rl × Value × Value)) (w : World) (e : Ending) (w' : World) : Prop :=
  ∃ L' : List (Rl × Value × Value), e = .returned (.tuple #[]) ∧ L'.Perm L ∧ (∀ (i j : Nat) (x y : Rl × Value × Value), i < j → L'[i]? = some x → L'[j]? = some y → cmpR x.1 y.1 ≤ 0) ∧
    Hd w' g (KR.flat L') ∧ (∀ x ∈ L', KR.inn ok w' x) ∧ Ch g w w'
set_option maxHeartbeats 1600000 in
theorem sortr_any (ok : Nat → Prop) (w : World) (base g cap : Nat) (L : List (Rl × Value × Value)) (hok : ∀ b, ok b → b < w.heap.size ∧ b ≠ g) (hL : ∀ x ∈ L, KR.inn ok w x)
    (hown : w.ownsRow base 27 3 (.slice (some ⟨g, 0, none⟩) L.length cap) L.length (KR.flat L)) (hz : L.length < 4611686018427387904) (hne : L ≠ []) :
    Calls Tryz.prog 49 #[.slice (some ⟨g, 0, none⟩) L.length cap, .func (.func 12) #[] #[]] w (SrtdR ok g L w) := by
  have hgl := (hown.lt g rfl).2
  let D : List (ElR ok w) := L.attach.map fun x => ⟨x.1, hL x.1 x.2⟩
  have hDL : D.map (·.1) = L := by simp only [D, List.map_map, Function.comp_def]; exact List.attach_map_subtype_val L
  have hDl : D.length = L.length := by rw [← hDL]; simp
  obtain ⟨x0, hx0⟩ : ∃ x0, x0 ∈ D := by
    cases hD : D with
    | nil => rw [hD] at hDl; exact absurd (List.eq_nil_of_length_eq_zero hDl.symm) hne
    | cons a r => exact ⟨a, by simp⟩
  letI : Inhabited (ElR ok w) := ⟨x0⟩
  have hget : ∀ (i : Nat) (x : Rl × Value × Value), L[i]? = some x → (D.toArray[i]!).1 = x := by
    intro i x hx
    rw [← hDL, List.getElem?_map] at hx
    obtain ⟨y, h1, h2⟩ := Option.map_eq_some_iff.1 hx
    have hi := (List.getElem?_eq_some_iff.1 h1)
    obtain ⟨hi, h3⟩ := hi
    rw [getElem!_pos _ i (by simpa using hi)]
    simp [h3, h2]
  have hH : HoldsK encR 3 w g 0 D.toArray := by
    intro j hj
    rw [size_flatK] at hj
    have hj' : j < L.length * 3 := by rw [← hDl]; simpa using hj
    rw [get_flatK _ _ _ _ hj]
    obtain ⟨x, hx⟩ : ∃ x, L[j / 3]? = some x := ⟨L[j / 3]'(by omega), by simp⟩
    have he := hget _ x hx
    have h3 : j % 3 < (KR.cells x).length := by rw [KR.len]; omega
    have f := flat_get (K := KR) L (j / 3) x hx (j % 3) ((KR.cells x)[j % 3]) (List.getElem?_eq_getElem h3)
    rw [show j / 3 * 3 + j % 3 = j by omega] at f
    refine ⟨?_, hown.frozenAt _⟩
    rw [Nat.zero_add, hown.cellAt j hj', f]
    unfold encR
    rw [he, getElem!_pos (KR.cells x) (j % 3) h3]
    rfl
  have hcmp : CmpLays Tryz.prog 12 #[] (encR (ok := ok) (w := w)) 3 cfR g 0 D.toArray.size w := by
    intro m os dk hdk x y
    have fr : ∀ b o, ok b → (sortWorldK encR 3 w g 0 m dk os).cell? ⟨b, o, none⟩ = w.cell? ⟨b, o, none⟩ := fun b o hb => cell_sortK _ _ _ _ _ _ _ _ _ (hok b hb).2 (hok b hb).1
    have hc := cmpr_any x.1.1.1 y.1.1.1 x.1.1.2 y.1.1.2 w.heap.size (sortWorldK encR 3 w g 0 m dk os) x.1.2.1 y.1.2.1 x.1.2.2 y.1.2.2 (size_sortWorldK_c encR 3 w g 0 m dk os) ((x.2.1.frame fr).weaken fun b hb => (hok b hb).1) ((y.2.1.frame fr).weaken fun b hb => (hok b hb).1) x.2.2.1 y.2.2.1 ((x.2.2.2.keep fr).wide fun b hb => (hok b hb).1) ((y.2.2.2.keep fr).wide fun b hb => (hok b hb).1)
    exact hc.mono fun e w' ⟨he, hg⟩ => ⟨he, TermP.Gr.grow hg⟩
  have eg : ∀ args w, (callFunc 12 args).run Tryz.prog w = .ok (.enter 12 args) w := enters_of Tryz.func12 (by kernel_rfl) rfl
  have hcon := AnyQ.slices_SortFunc Tryz.sortR 3 isAggR sizeOfR (encR (ok := ok) (w := w)) (fun _ => rfl) (fun x v hv => by
    obtain ⟨p, c, hf⟩ := x.2.1.form
    obtain ⟨p', c', hf'⟩ := x.2.2.2.form
    have hv' : v ∈ [Value.string x.1.1.1.nm, x.1.2.1, x.1.2.2] := hv
    rw [hf, hf'] at hv'
    exact one_R _ _ _ _ _ _ _ v hv') cfR swoR 12 #[] g 0 cap D.toArray w eg hcmp hH hgl (by simp [hDl]; omega)
  have hsz : D.toArray.size = L.length := by simp [hDl]
  rw [hsz] at hcon
  refine Calls.mono (show Calls Tryz.prog 49 _ w _ from hcon) ?_
  rintro e w' ⟨he, d', n, os, hp, hs, rfl⟩
  obtain ⟨p1, p2, p3⟩ := hp
  have e1 : (d'.extract 0 L.length).toList = d'.toList := by rw [← hsz, ← p1]; simp
  have e2 : (D.toArray.extract 0 L.length).toList = D := by rw [← hsz]; simp
  rw [e1, e2] at p3
  have hlen : d'.toList.length = L.length := by rw [← hsz, ← p1]; simp
  have hH' := holdsK_sortWorldK_c encR 3 w g 0 D.toArray d' n os hH hgl p1
  have hat : ∀ (i : Nat) (y : ElR ok w), d'.toList[i]? = some y → i < d'.size ∧ d'[i]! = y := by
    intro i y hy
    obtain ⟨hi, h2⟩ := List.getElem?_eq_some_iff.1 hy
    have hi' : i < d'.size := by simpa using hi
    exact ⟨hi', by rw [getElem!_pos _ i hi']; simpa using h2⟩
  have key : ∀ (i : Nat) (x : Rl × Value × Value), (d'.toList.map (·.1))[i]? = some x → ∃ y : ElR ok w, d'.toList[i]? = some y ∧ y.1 = x := by
    intro i x hx
    rw [List.getElem?_map] at hx
    obtain ⟨y, a, b⟩ := Option.map_eq_some_iff.1 hx
    exact ⟨y, a, b⟩
  refine ⟨d'.toList.map (·.1), he, ?_, ?_, ?_, ?_, ch_sortK _ _ _ _ _ _ _⟩
  · have := p3.map (·.1)
    rwa [hDL] at this
  · intro i j x y hij hx hy
    obtain ⟨x', hx', rfl⟩ := key i x hx
    obtain ⟨y', hy', rfl⟩ := key j y hy
    obtain ⟨a1, a2⟩ := hat i x' hx'
    obtain ⟨b1, b2⟩ := hat j y' hy'
    have h := hs i j (Nat.zero_le _) hij (by omega)
    rw [a2, b2] at h
    unfold ltOf cfR at h
    have h2 := r_neg y'.1.1 x'.1.1
    simp at h
    omega
  · intro j u hu
    have hj : j < (d'.toList.map (·.1)).length * 3 := by
      have := (List.getElem?_eq_some_iff.1 hu).1
      rwa [flat_len] at this
    obtain ⟨x, hx⟩ : ∃ x, (d'.toList.map (·.1))[j / 3]? = some x := ⟨(d'.toList.map (·.1))[j / 3]'(by omega), by rw [List.getElem?_eq_getElem (by omega)]⟩
    obtain ⟨y, hy, rfl⟩ := key _ x hx
    obtain ⟨a1, a2⟩ := hat _ y hy
    have h3 : j % 3 < (KR.cells y.1).length := by rw [KR.len]; omega
    have f := flat_get (K := KR) (d'.toList.map (·.1)) (j / 3) y.1 hx (j % 3) ((KR.cells y.1)[j % 3]) (List.getElem?_eq_getElem h3)
    rw [show j / 3 * 3 + j % 3 = j by omega] at f
    rw [f] at hu
    obtain rfl := Option.some.inj hu
    have c := hH'.cell (i := j / 3) (c := j % 3) a1 (by omega)
    rw [show 0 + j / 3 * 3 + j % 3 = j by omega, a2] at c
    unfold encR at c
    rw [getElem!_pos (KR.cells y.1) (j % 3) h3] at c
    exact c
  · intro x hx
    obtain ⟨y, hy, rfl⟩ := List.mem_map.1 hx
    exact KR.keep y.2 fun b o hb => cell_sortK _ _ _ _ _ _ _ _ _ (hok b hb).2 (hok b hb).1
end NosG
end Go.Proofs.YtikkaiiinkeobaaGreatDoor
