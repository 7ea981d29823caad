/- slices.Clone at terms: a row of its own that holds the same terms. Condition: at most a million terms. -/
import Derived.Test.YtgfdplmilichiaaDoorTermY
import Derived.WalkSpells
namespace Go.Proofs.YtgfdplmilichiaaDoor
open Go Go.RowKit Go.Deep
namespace TermZ
open LexM TermM TermI Kit TermN TermU TermY
/-- What slices.Clone leaves. -/
def Copied (B : Nat) (l : List Tm) (w : World) (e : Ending) (w' : World) : Prop :=
  ∃ (v : Value) (L : List (Tm × Value)), e = .returned v ∧ L.map (·.1) = l ∧ w'.ownsRow w.heap.size 28 2 v L.length (flatL L) ∧ (∀ x ∈ L, SlIn (· < B) w x.1.args x.2 ∧ x.1.nm.size ≤ maxLen) ∧ Below w.heap.size w w'
theorem pairs {B : Nat} {w : World} {l : List Tm} {p : Option Addr} (h : Row B w l p) : ∃ L : List (Tm × Value), L.map (·.1) = l ∧ (∀ x ∈ L, SlIn (· < B) w x.1.args x.2 ∧ x.1.nm.size ≤ maxLen) ∧ (∀ u ∈ flatL L, u.oneCell' = true) ∧
    ∀ b o, p = some ⟨b, o, none⟩ → ∀ j u, (flatL L)[j]? = some u → w.cell? ((⟨b, o, none⟩ : Addr).add j) = some u := by
  have h' : ∀ k, k < l.length → ∃ x : Tm × Value, l[k]? = some x.1 ∧ (∃ q d, x.2 = .slice q x.1.args.length d) ∧ SlIn (· < B) w x.1.args x.2 ∧ x.1.nm.size ≤ maxLen ∧ ∀ b o, p = some ⟨b, o, none⟩ → w.cell? ⟨b, o + k * 2, none⟩ = some (.string x.1.nm) ∧ w.cell? ⟨b, o + k * 2 + 1, none⟩ = some x.2 := by
    intro k hk
    obtain ⟨t, b, o, q, d, h1, h2, h3, h4, h5, h6, h7⟩ := h k hk
    refine ⟨(t, .slice q t.args.length d), h1, ⟨q, d, rfl⟩, h6, h7, fun b' o' e => ?_⟩
    rw [h2] at e
    injection e with e
    injection e with e1 e2
    subst e1 e2
    exact ⟨h4, h5⟩
  obtain ⟨L, hl, hall⟩ := gather h'
  have hm : L.map (·.1) = l := by
    apply List.ext_getElem?
    intro i
    rw [List.getElem?_map]
    by_cases hi : i < L.length
    · have := (hall i _ (List.getElem?_eq_getElem hi)).1
      rw [List.getElem?_eq_getElem hi, this]
      rfl
    · rw [List.getElem?_eq_none (by omega), List.getElem?_eq_none (by omega)]
      rfl
  have hmem : ∀ x ∈ L, ∃ i, L[i]? = some x := fun x hx => List.mem_iff_getElem?.1 hx
  refine ⟨L, hm, fun x hx => ?_, fun u hu => ?_, fun b o e j u hj => ?_⟩
  · obtain ⟨i, hi⟩ := hmem x hx
    exact ⟨(hall i x hi).2.2.1, (hall i x hi).2.2.2.1⟩
  · unfold flatL at hu
    obtain ⟨x, hx, hu⟩ := List.mem_flatMap.1 hu
    obtain ⟨i, hi⟩ := hmem x hx
    obtain ⟨q, d, hv⟩ := (hall i x hi).2.1
    rw [hv] at hu
    simp at hu
    rcases hu with rfl | rfl <;> rfl
  · have hj' : j < L.length * 2 := by
      have := (List.getElem?_eq_some_iff.1 hj).1
      rwa [flatL_len] at this
    obtain ⟨x, hx⟩ : ∃ x, L[j / 2]? = some x := ⟨L[j / 2]'(by omega), by simp⟩
    obtain ⟨f1, f2⟩ := flatL_get L _ x hx
    obtain ⟨g1, g2⟩ := (hall _ x hx).2.2.2.2 b o e
    rw [addr_add]
    rcases Nat.mod_two_eq_zero_or_one j with h | h
    · have e : j / 2 * 2 = j := by omega
      rw [e] at f1 g1
      rw [f1] at hj
      rw [g1, hj]
    · have e : j / 2 * 2 + 1 = j := by omega
      rw [e] at f2
      rw [f2] at hj
      have e' : o + j / 2 * 2 + 1 = o + j := by omega
      rw [e'] at g2
      rw [g2, hj]
set_option maxRecDepth 100000 in
set_option maxHeartbeats 1600000 in
theorem copy_any (l : List Tm) (B : Nat) (w : World) (v : Value) (h : SlIn (· < B) w l v) (hl : l.length ≤ 1000000) :
    Calls Tryd.prog 69 #[v] w (Copied B l w) := by
  obtain ⟨i0, hi, hz0, hz1, hz2⟩ := info_parts Tryd.info28
  obtain ⟨p, c, rfl, hn, hc, hm, hR⟩ := h.row
  obtain ⟨L, hL, hall, hone, hcell⟩ := pairs hR
  have hLl : L.length = l.length := by rw [← hL]; simp
  have HL := Lib.hid hL
  have HA := Lib.hid hall
  cases p with
  | none =>
    obtain rfl := hn rfl
    have h0 : l.length = 0 := by omega
    have hL0 : L = [] := List.eq_nil_of_length_eq_zero (by omega)
    subst hL0
    rw [h0]
    clear hR hL h hall hone hcell hLl h0 hn
    have EQ := fun (w : World) => Go.Lib.run_eql_slice_nil (P := Tryd.prog) w 26 28 none 0 0 0 0 Tryd.underlying26
    go_enter Tryd.func69, Tryd.ntmps69
    go_wp2_with fail
    go_ret
    exact ⟨_, [], rfl, HL.out, ⟨rfl, Or.inl ⟨rfl, rfl⟩⟩, HA.out, Below.refl _ _⟩
  | some a =>
    rw [← hLl]
    have EQ := fun (w : World) => Go.Lib.run_eql_slice_nil (P := Tryd.prog) w 26 28 (some a) L.length c 0 0 Tryd.underlying26
    have A1 : 0 + L.length ≤ maxLen := by unfold maxLen; omega
    have A2 : (0 + L.length) * 40 ≤ 140737488355328 := by omega
    have hnews : ∀ j u, (flatL L)[j]? = some u → (w.alloc (.cells #[] 28)).cell? (a.add j) = some u := by
      intro j u hj
      have hne : 0 < L.length := by
        rcases Nat.eq_zero_or_pos L.length with h0 | h0
        · have : L = [] := List.eq_nil_of_length_eq_zero h0
          subst this
          simp [flatL] at hj
        · exact h0
      obtain ⟨t, b, o, q, d, _, h2, _⟩ := hR 0 (by omega)
      injection h2 with h2
      subst h2
      have h3 := hcell b o rfl j u hj
      rw [addr_add] at h3 ⊢
      rw [Gr.cell (Gr.alloc w _) (block_lt_of_cell h3)]
      exact h3
    have hown0 : (w.alloc (.cells #[] 28)).ownsRow w.heap.size 28 2 (.slice (some ⟨w.heap.size, 0, none⟩) 0 0) 0 [] :=
      ⟨rfl, Or.inr ⟨w.heap.size, 0, #[], rfl, Nat.le_refl _, heap_alloc_new w _, Nat.le_refl _, Nat.zero_le _, rfl, rfl⟩⟩
    have A3 : w.heap.size ≤ (w.alloc (.cells #[] 28)).heap.size := by simp
    have HN := Lib.hid hnews
    have HO := Lib.hid hown0
    have H1 := Lib.hid hone
    clear hR hL h hall hLl hnews hown0 hcell hone
    go_enter Tryd.func69, Tryd.ntmps69
    go_wp2_with (at_builtin; refine wpList_append_own _ rfl _ _ 26 rfl w.heap.size 28 i0 (.agg #[.string ⟨#[]⟩, .slice none 0 0]) 2 40 Tryd.underlying26 hi hz0 hz1 hz2 rfl (by decide) _ 0 [] rfl HO.out a L.length c (flatL L) rfl (flatL_len L) HN.out H1.out A1 A2 A3 ?_; intro v1 w1 hown1 hgrow1 _)
    have O1 : Hid (w1.ownsRow w.heap.size 28 2 v1 L.length (flatL L)) := Lib.hid (by rw [Nat.zero_add, List.nil_append] at hown1; exact hown1)
    have D1 : Hid (Below w.heap.size w w1) := Lib.hid ((below_alloc w _).grown hgrow1 (by simp) (fun k hk => by
      have : w.heap.size = k := Option.some.inj (show some w.heap.size = some k from hk)
      omega))
    clear hown1 hgrow1
    go_wp2_with fail
    go_ret
    exact ⟨v1, L, rfl, HL.out, O1.out, HA.out, D1.out⟩
end TermZ
end Go.Proofs.YtgfdplmilichiaaDoor
