/- The code's Find on an ascending list: the place of the term, else -1. Condition: at most three million terms. -/
import Derived.Test.YtgfdplmilichiaaDoorTermBs
import Derived.Test.YtgfdplmilichiaaDoorTermH
namespace Go.Proofs.YtgfdplmilichiaaDoor
open Go Go.RowKit
namespace TermFd
open LexM TermM TermI Kit TermN TermP TermQ TermR TermCr TermG TermBs
/-- The place of a term in an ascending list, else -1. -/
def At (s : List Tm) (t : Tm) (R : Int) : Prop := (∀ (k : Nat) (x : Tm), s[k]? = some x → cmpT x t = 0 → R = (k : Int)) ∧ ((∀ (j : Nat) (y : Tm), s[j]? = some y → cmpT y t ≠ 0) → R = -1) ∧ (t ∈ s → 0 ≤ R)
theorem at_ex {s : List Tm} (hA : Asc s) (t : Tm) : ∃ R, At s t R := by
  by_cases h : ∃ (k : Nat) (x : Tm), s[k]? = some x ∧ cmpT x t = 0
  · obtain ⟨k, x, hk, hz⟩ := h
    refine ⟨k, fun k' x' hk' hz' => ?_, fun hn => absurd hz (hn k x hk), fun _ => by omega⟩
    have e1 := (cmp_zero x t).1 hz
    have e2 := (cmp_zero x' t).1 hz'
    subst e1
    subst e2
    rcases Nat.lt_trichotomy k k' with h | h | h
    · have := hA k k' _ _ h hk hk'
      rw [hz] at this
      omega
    · rw [h]
    · have := hA k' k _ _ h hk' hk
      rw [hz] at this
      omega
  · refine ⟨-1, fun k x hk hz => absurd ⟨k, x, hk, hz⟩ h, fun _ => rfl, fun ht => ?_⟩
    obtain ⟨k, hk⟩ := List.mem_iff_getElem?.1 ht
    exact absurd ⟨k, t, hk, (cmp_zero t t).2 rfl⟩ h
theorem asc_hs {s : List Tm} (hA : Asc s) (t : Tm) : ∀ (i j : Nat) (x y : Tm), i < j → s[i]? = some x → s[j]? = some y → cmpT y t < 0 → cmpT x t < 0 := by
  intro i j x y hij hx hy hyt
  exact (tri_cmp x y t).2.1 (hA i j x y hij hx hy) (by omega)
theorem found_at {s : List Tm} {t : Tm} {R : Int} (hA : Asc s) (hR : At s t R) {i : Nat} {f : Bool} (h1 : ∀ (j : Nat) (y : Tm), j < i → s[j]? = some y → cmpT y t < 0) (h2 : ∀ (j : Nat) (y : Tm), i ≤ j → s[j]? = some y → 0 ≤ cmpT y t) (h3 : f = true ↔ ∃ y, s[i]? = some y ∧ cmpT y t = 0) : R = if f = true then (i : Int) else -1 := by
  cases f
  · rw [if_neg (by simp)]
    refine hR.2.1 (fun j y hy hz => ?_)
    have hn : ¬ ∃ y, s[i]? = some y ∧ cmpT y t = 0 := fun h => by have := h3.2 h; simp at this
    rcases Nat.lt_trichotomy j i with h | h | h
    · have := h1 j y h hy; omega
    · subst h; exact hn ⟨y, hy, hz⟩
    · have hlt := (List.getElem?_eq_some_iff.1 hy).1
      obtain ⟨z, hzz⟩ : ∃ z, s[i]? = some z := ⟨s[i]'(by omega), by simp⟩
      have e1 := h2 i z (Nat.le_refl _) hzz
      have e2 := hA i j z y h hzz hy
      have e3 := (tri_cmp z y t).2.1 e2 (by omega)
      omega
  · rw [if_pos rfl]
    obtain ⟨y, hy, hz⟩ := h3.1 rfl
    exact hR.1 i y hy hz
set_option maxRecDepth 100000 in
set_option maxHeartbeats 1600000 in
theorem find_any (l : List Tm) (t : Tm) (hA : Asc l) (R : Int) (hR : At l t R) (hlen : l.length ≤ 3000000) (B : Nat) (w : World) (v tv : Value) (hB : B ≤ w.heap.size) (hn : t.nm.size ≤ maxLen) (h : SlIn (· < B) w l v) (h' : SlIn (· < B) w t.args tv) :
    Calls Tryd.prog 42 #[v, .agg #[.string t.nm, tv]] w fun e w' => e = .returned (.int .i64 R) ∧ Below w.heap.size w w' := by
  have KB := Lib.hid (fun w' (g : Gr w w') => bs_any l t (asc_hs hA t) hlen B w' v tv (Nat.le_trans hB g.size) hn (h.gr g hB) (h'.gr g hB))
  have FA := Lib.hid (fun (i : Nat) (f : Bool) h1 h2 h3 => found_at hA hR (i := i) (f := f) h1 h2 h3)
  obtain ⟨p, c, rfl⟩ := h.form
  obtain ⟨p', c', rfl⟩ := h'.form
  generalize l.length = m at *
  generalize t.args.length = ta at *
  generalize t.nm = tn at *
  clear h h' hA hR
  have HN := Has.new w 28 #[.string tn, .slice p' ta c']
  obtain ⟨x1, x2, _⟩ := HN.two
  go_enter Tryd.func42, Tryd.ntmps42
  go_wp2_with fail
  refine (KB.out _ (Gr.alloc _ _)).mono ?_
  rintro e w1 ⟨⟨i, f, hi, rfl, h1, h2, h3⟩, g1⟩
  have HF := Lib.hid (FA.out i f h1 h2 h3)
  have G1 := Lib.hid ((Gr.alloc w _).trans g1).1
  clear h1 h2 h3 g1 FA KB
  cases f
  all_goals
    go_wp2_with fail
    go_ret
    exact ⟨ret_int (by rw [HF.out]; simp), G1.out⟩
end TermFd
end Go.Proofs.YtgfdplmilichiaaDoor
