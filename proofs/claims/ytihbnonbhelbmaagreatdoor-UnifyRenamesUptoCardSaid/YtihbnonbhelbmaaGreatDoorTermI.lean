/- Where terms lie in memory: a slice value that holds a list of terms, in blocks of a kind; from world to world; and how terms that come in are opened. No conditions. -/
import Derived.Test.YtihbnonbhelbmaaGreatDoorKit
import Derived.Test.YtihbnonbhelbmaaGreatDoorTermM
import Derived.Deep.Slices
import Derived.Deep.SlicePairs
namespace Go.Proofs.YtihbnonbhelbmaaGreatDoor
open Go Go.RowKit Go.ChangeShapes Go.Deep
namespace TermI
open LexM TermM Kit
/-- The slice value holds the terms of the list; all their cells lie in blocks of the kind ok. -/
inductive SlIn (ok : Nat → Prop) (w : World) : List Tm → Value → Prop
  | mk (p : Option Addr) (c : Nat) (l : List Tm) (V : Nat → Value) (b o : Nat) (hp : l ≠ [] → p = some ⟨b, o, none⟩ ∧ ok b) (hn : p = none → c = 0) (hc : l.length ≤ c) (hm : c ≤ maxLen)
    (h1 : ∀ i t, l[i]? = some t → w.cell? ⟨b, o + i * 2, none⟩ = some (.string t.nm) ∧ w.cell? ⟨b, o + i * 2 + 1, none⟩ = some (V i) ∧ t.nm.size ≤ maxLen)
    (h2 : ∀ i t, l[i]? = some t → SlIn ok w t.args (V i)) : SlIn ok w l (.slice p l.length c)
section
variable {ok ok' : Nat → Prop} {w w' : World} {l : List Tm} {v : Value}
theorem ne_of_get {i : Nat} {t : Tm} (h : l[i]? = some t) : l ≠ [] := by
  intro e; subst e; simp at h
theorem SlIn.frame (h : SlIn ok w l v) (hf : ∀ b o, ok b → w'.cell? ⟨b, o, none⟩ = w.cell? ⟨b, o, none⟩) : SlIn ok w' l v := by
  induction h with
  | mk p c l V b o hp hn hc hm h1 h2 ih =>
    refine .mk p c l V b o hp hn hc hm (fun i t ht => ?_) ih
    have hb := (hp (ne_of_get ht)).2
    rw [hf _ _ hb, hf _ _ hb]
    exact h1 i t ht
theorem SlIn.weaken (h : SlIn ok w l v) (hk : ∀ b, ok b → ok' b) : SlIn ok' w l v := by
  induction h with
  | mk p c l V b o hp hn hc hm h1 h2 ih => exact .mk p c l V b o (fun h => ⟨(hp h).1, hk _ (hp h).2⟩) hn hc hm h1 ih
theorem SlIn.deep {B B' : Nat} (h : SlIn (· < B) w l v) (hb : Below B' w w') (hB : B ≤ B') : SlIn (· < B) w' l v :=
  h.frame fun _ _ hlt => hb.cell (p := ⟨_, _, none⟩) (Nat.lt_of_lt_of_le hlt hB)
theorem SlIn.none (ok : Nat → Prop) (w : World) : SlIn ok w [] (.slice .none 0 0) :=
  .mk .none 0 [] (fun _ => undef) 0 0 (fun h => absurd rfl h) (fun _ => rfl) (Nat.le_refl _) (Nat.zero_le _) (fun i t h => by simp at h) (fun i t h => by simp at h)
end
theorem SlIn.form {ok : Nat → Prop} {w : World} {l : List Tm} {v : Value} (h : SlIn ok w l v) : ∃ p c, v = .slice p l.length c := by
  cases h with
  | mk p c l V b o hp hn hc hm h1 h2 => exact ⟨p, c, rfl⟩
theorem cellsT : Tryz.prog.cellsOf 27 = 2 := by kernel_rfl
theorem under : ∃ f0 f1 : Field, Tryz.prog.underlying 27 = some (.struct #[f0, f1]) ∧ f0.offset = 0 ∧ f1.offset = 1 ∧ f0.type = 9 ∧ f1.type = 25 := ⟨_, _, Tryz.underlying27, rfl, rfl, rfl, rfl⟩
theorem cellsL : Tryz.prog.cellsOf 25 = 1 := by kernel_rfl
theorem cellsS : Tryz.prog.cellsOf 9 = 1 := by kernel_rfl
theorem two_of (l : List Value) (h : l.length = 2) : ∃ a b, l = [a, b] := by
  match l, h with
  | [a, b], _ => exact ⟨a, b, rfl⟩
/-- Two cells that read as a term. -/
theorem struct_in {H : Type} {enc : TypeId × Value → H} {W : World} {base : Nat} {sp : Nat → Bool} {held : Bool} {n : Nat} {cs : List Value} {x : DataW H × List MemPlace}
    (h : DataW.trod enc Tryz.prog W base sp held n 27 cs = some x) :
    ∃ (s : ByteArray) (v : Value) (k : Nat) (y : DataW H × List MemPlace), cs = [.string s, v] ∧ k < n ∧ s.size ≤ maxLen ∧ DataW.trod enc Tryz.prog W base sp held k 25 [v] = some y ∧ x.1 = .agg [.lit (.string s.data.toList), y.1] := by
  obtain ⟨f0, f1, hu, o0, o1, y0, y1⟩ := under
  obtain ⟨xs, k, hk, hxy, hcl, hxl, hf⟩ := DataW.trod_struct hu h
  rw [cellsT] at hcl
  obtain ⟨v0, v1, rfl⟩ := two_of cs hcl
  match xs, hxl with
  | [x0, x1], _ =>
    have g0 := hf 0 f0 rfl
    have g1 := hf 1 f1 rfl
    simp [o0, o1, y0, y1, cellsL, cellsS] at g0 g1
    obtain ⟨s, q1, q2, hs⟩ := DataW.trod_string Tryz.underlying9 g0
    simp at q1
    subst q1 q2 hxy
    exact ⟨s, v1, k, x1, rfl, by omega, hs, g1, rfl⟩
theorem addr_add (b o n : Nat) : (⟨b, o, none⟩ : Addr).add n = ⟨b, o + n, none⟩ := by unfold Addr.add; split <;> simp_all
theorem gather {α : Type} {m : Nat} {p : Nat → α → Prop} (h : ∀ i, i < m → ∃ x, p i x) : ∃ l : List α, l.length = m ∧ ∀ i x, l[i]? = some x → p i x := by
  induction m with
  | zero => exact ⟨[], rfl, fun i x h => by simp at h⟩
  | succ m ih =>
    obtain ⟨l, hl, hp⟩ := ih (fun i hi => h i (by omega))
    obtain ⟨x, hx⟩ := h m (by omega)
    refine ⟨l ++ [x], by simp [hl], fun i y hy => ?_⟩
    by_cases c : i < m
    · rw [List.getElem?_append_left (by omega)] at hy
      exact hp i y hy
    · have e : i = m := by
        have := (List.getElem?_eq_some_iff.1 hy).1
        simp [hl] at this
        omega
      subst e
      rw [List.getElem?_append_right (by omega), hl, Nat.sub_self] at hy
      simp at hy
      subst hy
      exact hx
/-- A slice value that reads as a slice of terms. -/
theorem slice_in {H : Type} {enc : TypeId × Value → H} {W : World} {base : Nat} {sp : Nat → Bool} {held : Bool} : ∀ (n : Nat) (cs : List Value) (x : DataW H × List MemPlace),
    DataW.trod enc Tryz.prog W base sp held n 25 cs = some x → ∃ (l : List Tm) (v : Value), cs = [v] ∧ SlIn (· < W.heap.size) W l v := by
  intro n
  induction n using Nat.strongRecOn with
  | ind n ih =>
    intro cs x h
    rcases DataW.trod_slice Tryz.underlying25 h with ⟨rfl, rfl⟩ | ⟨a, len, cap, elems, rest, m, hn, rfl, rfl, _, hle, hm, hlen, hel, _⟩
    · exact ⟨[], _, rfl, SlIn.none _ _⟩
    · have each : ∀ i, i < len → ∃ tv : Tm × Value, W.cell? (a.add (i * 2)) = some (.string tv.1.nm) ∧ W.cell? (a.add (i * 2 + 1)) = some tv.2 ∧ tv.1.nm.size ≤ maxLen ∧ SlIn (· < W.heap.size) W tv.1.args tv.2 := by
        intro i hi
        have he := hel i hi
        rw [List.getElem?_eq_getElem (by omega)] at he
        obtain ⟨cs', h1, h2⟩ := Option.bind_eq_some_iff.1 he
        rw [cellsT] at h1
        obtain ⟨_, hl2, hcell⟩ := World.cells?_some h1
        obtain ⟨s, v, k, y, rfl, hk, hs, hv, _⟩ := struct_in h2
        obtain ⟨l, v', e, hin⟩ := ih k (by omega) _ _ hv
        injection e with e _
        subst e
        have e0 := hcell 0 (by omega)
        have e1 := hcell 1 (by omega)
        rw [add_add] at e0 e1
        exact ⟨(.mk s l, v), by simpa [Tm.nm] using e0, by simpa using e1, hs, hin⟩
      obtain ⟨tvs, htl, hall⟩ := gather each
      obtain ⟨b, off, spot⟩ := a
      refine ⟨tvs.map (·.1), .slice (some ⟨b, off, spot⟩) len cap, rfl, ?_⟩
      have hsp : tvs ≠ [] → spot = none ∧ b < W.heap.size := by
        intro hne
        obtain ⟨tv, hg⟩ : ∃ tv, tvs[0]? = some tv := by cases tvs with
          | nil => exact absurd rfl hne
          | cons a r => exact ⟨a, rfl⟩
        have h0 := (hall 0 tv hg).1
        have h2 : spot = none := by simpa [Addr.add] using World.cell?_spot h0
        subst h2
        exact ⟨rfl, by simpa [Addr.add] using block_lt_of_cell h0⟩
      have hml : (tvs.map (·.1)).length = len := by simp [htl]
      rw [← hml]
      have key : ∀ (i : Nat) (t : Tm), (tvs.map (·.1))[i]? = some t → ∃ tv : Tm × Value, tvs[i]? = some tv ∧ tv.1 = t := by
        intro i t ht
        rw [List.getElem?_map] at ht
        obtain ⟨tv, h1, h2⟩ := Option.map_eq_some_iff.1 ht
        exact ⟨tv, h1, h2⟩
      refine .mk _ cap _ (fun i => (tvs.getD i (default, undef)).2) b off (fun hne => ?_) (fun h => by cases h) (by omega) hm (fun i t ht => ?_) (fun i t ht => ?_)
      · obtain ⟨rfl, h2⟩ := hsp (by intro e; subst e; exact hne rfl)
        exact ⟨rfl, h2⟩
      · obtain ⟨tv, hg, rfl⟩ := key i t ht
        obtain ⟨h1, h2, h3, _⟩ := hall i tv hg
        obtain ⟨rfl, _⟩ := hsp (by intro e; subst e; simp at hg)
        rw [addr_add] at h1 h2
        exact ⟨h1, by simpa [List.getD, hg, Nat.add_assoc] using h2, h3⟩
      · obtain ⟨tv, hg, rfl⟩ := key i t ht
        have := (hall i tv hg).2.2.2
        simpa [List.getD, hg] using this
set_option maxRecDepth 100000 in
theorem open_terms {H : Type} {enc : TypeId × Value → H} {W : World} {b0 : Nat} {base : Nat} {sp : Nat → Bool} {held : Bool} {v : Value} {d : DataW H} {p : List MemPlace}
    (hv : Value.okWide Tryz.prog W .any b0 25 v) (h : DataW.Trod enc Tryz.prog W base sp held 25 v d p) : ∃ l, SlIn (· < W.heap.size) W l v := by
  obtain ⟨a0, m0, c0, rfl⟩ := Go.WideShapes.okWide_slice Tryz.underlying25 hv
  obtain ⟨fuel, hf⟩ := h
  obtain ⟨l, v, e, hin⟩ := slice_in _ _ _ hf
  simp [Value.cells] at e
  subst e
  exact ⟨l, hin⟩
set_option maxRecDepth 100000 in
theorem open_term {H : Type} {enc : TypeId × Value → H} {W : World} {b0 : Nat} {base : Nat} {sp : Nat → Bool} {held : Bool} {v : Value} {d : DataW H} {p : List MemPlace}
    (hv : Value.okWide Tryz.prog W .any b0 27 v) (h : DataW.Trod enc Tryz.prog W base sp held 27 v d p) : ∃ (t : Tm) (sv : Value), v = .agg #[.string t.nm, sv] ∧ t.nm.size ≤ maxLen ∧ SlIn (· < W.heap.size) W t.args sv := by
  obtain ⟨cs, rfl, hsz⟩ := WideShapes.okWide_struct under.choose_spec.choose_spec.1 hv
  obtain ⟨fuel, hf⟩ := h
  obtain ⟨s, v, k, y, e, _, hs, hv, _⟩ := struct_in hf
  obtain ⟨l, v', e', hin⟩ := slice_in _ _ _ hv
  injection e' with e' _
  subst e'
  simp [Value.cells] at e
  obtain rfl : cs = #[.string s, v] := Array.ext' e
  exact ⟨.mk s l, v, rfl, hs, hin⟩
/-- Behind a call that makes memory: what was there is as it was; draws only grow. -/
def Gr (w w' : World) : Prop := Below w.heap.size w w' ∧ w.drawn ≤ w'.drawn
theorem Gr.refl (w : World) : Gr w w := ⟨Below.refl _ _, Nat.le_refl _⟩
theorem Gr.trans {a b c : World} (h : Gr a b) (k : Gr b c) : Gr a c := ⟨next0 h.1 k.1, Nat.le_trans h.2 k.2⟩
theorem Gr.alloc (w : World) (o : Obj) : Gr w (w.alloc o) := ⟨below_alloc w o, Nat.le_refl _⟩
theorem Gr.drew (w : World) : Gr w w.drew := ⟨(Below.refl _ _).drew, Nat.le_succ _⟩
theorem Gr.drewN (w : World) (n : Nat) : Gr w (w.drewN n) := ⟨below_drewN (Below.refl _ _) n, Nat.le_add_right _ _⟩
theorem Gr.more {a b : World} (h : Gr a b) (o : Obj) : Gr a (b.alloc o) := h.trans (Gr.alloc b o)
theorem Gr.size {a b : World} (h : Gr a b) : a.heap.size ≤ b.heap.size := h.1.size
theorem Gr.cell {a b : World} (h : Gr a b) {g o : Nat} (hg : g < a.heap.size) : b.cell? ⟨g, o, none⟩ = a.cell? ⟨g, o, none⟩ := h.1.cell (p := ⟨g, o, none⟩) hg
theorem Gr.put {a b : World} (h : Gr a b) {p : Addr} (hp : a.heap.size ≤ p.block) (u : Value) : Gr a (b.setCell p u) := ⟨h.1.setCell hp u, h.2⟩
theorem Gr.has {a b : World} (h : Gr a b) {g : Nat} {cs : Array Value} (k : Has a g cs) : Has b g cs := k.step0 h.1
theorem SlIn.gr {B : Nat} {w w' : World} {l : List Tm} {v : Value} (h : SlIn (· < B) w l v) (g : Gr w w') (hB : B ≤ w.heap.size) : SlIn (· < B) w' l v := h.deep g.1 hB
/-- The terms of a list, two cells each, from the address on. -/
def Row (B : Nat) (w : World) (l : List Tm) (p : Option Addr) : Prop := ∀ k, k < l.length → ∃ t b o q d, l[k]? = some t ∧ p = some ⟨b, o, none⟩ ∧ b < B ∧ w.cell? ⟨b, o + k * 2, none⟩ = some (.string t.nm) ∧
  w.cell? ⟨b, o + k * 2 + 1, none⟩ = some (.slice q t.args.length d) ∧ SlIn (· < B) w t.args (.slice q t.args.length d) ∧ t.nm.size ≤ maxLen
theorem SlIn.row {B : Nat} {w : World} {l : List Tm} {v : Value} (h : SlIn (· < B) w l v) : ∃ p c, v = .slice p l.length c ∧ (p = .none → c = 0) ∧ l.length ≤ c ∧ c ≤ maxLen ∧ Row B w l p := by
  cases h with
  | mk p c l V b o hp hn hc hm h1 h2 =>
    refine ⟨p, c, rfl, hn, hc, hm, fun k hk => ?_⟩
    obtain ⟨t, ht⟩ : ∃ t, l[k]? = some t := ⟨l[k], by simp [hk]⟩
    obtain ⟨q1, q2⟩ := hp (ne_of_get ht)
    obtain ⟨a1, a2, a3⟩ := h1 k t ht
    have a4 := h2 k t ht
    obtain ⟨q, d, hv⟩ := a4.form
    rw [hv] at a2 a4
    exact ⟨t, b, o, q, d, ht, q1, q2, a1, a2, a4, a3⟩
theorem Row.gr {B : Nat} {w w' : World} {l : List Tm} {p : Option Addr} (h : Row B w l p) (g : Gr w w') (hB : B ≤ w.heap.size) : Row B w' l p := fun k hk => by
  obtain ⟨t, b, o, q, d, h1, h2, h3, h4, h5, h6, h7⟩ := h k hk
  exact ⟨t, b, o, q, d, h1, h2, h3, (g.cell (Nat.lt_of_lt_of_le h3 hB)).trans h4, (g.cell (Nat.lt_of_lt_of_le h3 hB)).trans h5, h6.gr g hB, h7⟩
end TermI
end Go.Proofs.YtihbnonbhelbmaaGreatDoor
