/- Texts laid together: TermJ; UnqG; NolU; NolG. Their own heads stand before each. -/
import Derived.Test.YtdkpflojdnkbnaaGreatDoorHAI
import Derived.Deep.DeepHandedRow
import Derived.Lib.LaidTab
import Derived.LaidSub
import Derived.OpenShut
import Derived.Deep.RegionHeld
import Derived.Test.YtdkpflojdnkbnaaGreatDoorHAO
import Derived.Test.YtdkpflojdnkbnaaGreatDoorHAE
import Derived.Test.YtdkpflojdnkbnaaGreatDoorRows
import Derived.Lib.LaidU8
import Derived.Lib.ItoaNum
/- The listed variable of layer 1's rows (the bytes that end names): a world that holds it, and what a row's list gives a walk. No conditions. -/
namespace Go.Proofs.YtdkpflojdnkbnaaGreatDoor
open Go Go.RowKit Go.ChangeShapes Go.WideShapes Go.ChangeAt
namespace TermJ
open TermT
abbrev list : List (String × DataW Unit) := [("gameplayer/term.nameEnds", Rows.laid_gameplayer_term_nameEnds)]
noncomputable def lay1 (w : World) (g : Nat) (cs : Array Value) : World :=
  { w with heap := w.heap.modify g fun
      | .cells _ t frozen => .cells cs t frozen
      | o => o }
noncomputable def laidWorld (os : Os) : World :=
  lay1 (World.holding Tryz.prog os ⟨#[], #[], []⟩) 0 #[.int .u8 40, .int .u8 44, .int .u8 41]
theorem laid_met_gen (os : Os) (args : Array Value) : laidMet Tryz.prog list ((laidWorld os).forCall (fun _ _ => 0) ⟨#[], args, []⟩).memory :=
  laidMet_of_run' 8 (by kernel_rfl) (by kernel_rfl)
theorem ints {H : Type} {enc : TypeId × Value → H} {P : Program} {w : World} {base : Nat} {sp : Nat → Bool} {held : Bool} {fuel : Nat} {t e : TypeId} {n : Nat} {cs : List Value} {ls : List Int} {p : List MemPlace}
    (ht : P.underlying t = some (.array n e)) (he : P.underlying e = some (.int .u8)) (hce : P.cellsOf e = 1) (hct : P.cellsOf t = n)
    (h : DataW.trod enc P w base sp held fuel t cs = some (.agg (ls.map fun l => .lit (.int .u8 l)), p)) : cs = ls.map fun l => Value.int .u8 l := by
  obtain ⟨xs, m, _, hx, hlen, hxl, hall⟩ := DataW.trod_array ht h
  have hxs : xs.map (·.1) = ls.map fun l => (DataW.lit (.int .u8 l) : DataW H) := by
    have := congrArg Prod.fst hx
    simpa using this.symm
  have hll : ls.length = n := by
    have := congrArg List.length hxs
    simp at this
    omega
  apply List.ext_getElem?
  intro i
  by_cases hi : i < n
  · obtain ⟨b, hb⟩ : ∃ b, xs[i]? = some b := ⟨xs[i]'(by omega), by simp⟩
    have hf := hall i hi
    rw [hb, hce, Nat.mul_one] at hf
    obtain ⟨s, hc, rfl, _⟩ := DataW.trod_int he hf
    have h1 : cs[i]? = some (.int .u8 s) := by
      have := congrArg (·[0]?) hc
      simpa [List.getElem?_take, List.getElem?_drop] using this
    have h2 : (xs.map (·.1))[i]? = some (DataW.lit (.int .u8 s) : DataW H) := by simp [hb]
    rw [hxs] at h2
    simp only [List.getElem?_map, Option.map_eq_some_iff, DataW.lit.injEq, Lit.int.injEq] at h2
    obtain ⟨l, hl, _, hls⟩ := h2
    rw [h1, List.getElem?_map, hl, hls]
    rfl
  · rw [List.getElem?_eq_none (by omega), List.getElem?_eq_none (by simp; omega)]
theorem gEnds : Tryz.prog.globalNamed "gameplayer/term.nameEnds" = some 0 := by kernel_rfl
theorem ends_gen {W : World} (h : laidMetH Tryz.prog list W) : Wd W := by
  have h1 : laidMet Tryz.prog list W := h
  obtain ⟨ps, ⟨g', t', cs, fuel, p, q, hg', ht', hvar, hd, _, _⟩, _⟩ := h1
  obtain rfl := Option.some.inj (gEnds.symm.trans hg')
  obtain rfl := Option.some.inj ((show (Tryz.prog.globals[0]?).map (·.type) = some 167 by kernel_rfl).symm.trans ht')
  have hc := ints (ls := [40, 44, 41]) Tryz.underlying167 Tryz.underlying5 (by kernel_rfl) (by kernel_rfl) hd
  have c0 := World.var?_cell gEnds hvar 0
  have c1 := World.var?_cell gEnds hvar 1
  have c2 := World.var?_cell gEnds hvar 2
  have e : cs = #[.int .u8 40, .int .u8 44, .int .u8 41] := Array.ext' hc
  rw [e] at c0 c1 c2
  exact ⟨World.block_lt_of_cell? W _ c0, c0, c1, c2⟩
end TermJ
end Go.Proofs.YtdkpflojdnkbnaaGreatDoor
/- Rules that come in are opened; what bounds the keys of their terms: the bulk of what they read as. No conditions. -/
namespace Go.Proofs.YtdkpflojdnkbnaaGreatDoor
open Go Go.RowKit Go.ChangeShapes Go.Deep
namespace UnqG
open LexM TermM TermI Kit UniK UniM LigM
theorem tail_bulk {H : Type} : ∀ (l : List Tm) (es : List (DataW H)), l.length = es.length → (∀ (i : Nat) t d, l[i]? = some t → es[i]? = some d → klen t + 1 ≤ Rows.uptoBulk d) → klenL l ≤ Rows.uptoBulkAll es
  | [], [], _, _ => by simp [klenL]
  | [], _ :: _, h, _ => by simp at h
  | _ :: _, [], h, _ => by simp at h
  | t :: l, d :: es, h, hall => by
    have h0 := hall 0 t d rfl rfl
    have h1 := tail_bulk l es (by simpa using h) (fun i t d ht hd => hall (i + 1) t d (by simpa using ht) (by simpa using hd))
    simp only [klenL, Rows.uptoBulkAll]
    omega
theorem text_bulk {H : Type} (s : ByteArray) (l : List Tm) (y : DataW H) (h : klenL l + 1 ≤ Rows.uptoBulk y) : klen (.mk s l) + 1 ≤ Rows.uptoBulk (DataW.agg [.lit (.string s.data.toList), y]) := by
  have h3 : s.data.toList.length = s.size := by simp
  simp only [klen, Rows.uptoBulk, Rows.uptoBulkAll, h3]
  omega
theorem all_app {H : Type} (a b : List (DataW H)) : Rows.uptoBulkAll a + 1 ≤ Rows.uptoBulk (.slice a b) := by
  simp only [Rows.uptoBulk]
  omega
theorem all_app0 {H : Type} (a b : List (DataW H)) : Rows.uptoBulkAll a ≤ Rows.uptoBulk (.slice a b) := by
  have := all_app a b
  omega
/-- A slice value that reads as a slice of terms, with its bulk. -/
theorem slice_in2 {H : Type} {enc : TypeId × Value → H} {W : World} {base : Nat} {sp : Nat → Bool} {held : Bool} : ∀ (n : Nat) (cs : List Value) (x : DataW H × List MemPlace),
    DataW.trod enc Tryz.prog W base sp held n 22 cs = some x → ∃ (l : List Tm) (v : Value), cs = [v] ∧ SlIn (· < W.heap.size) W l v ∧ klenL l + 1 ≤ Rows.uptoBulk x.1 := by
  intro n
  induction n using Nat.strongRecOn with
  | ind n ih =>
    intro cs x h
    rcases DataW.trod_slice Tryz.underlying22 h with ⟨rfl, rfl⟩ | ⟨a, len, cap, elems, rest, m, hn, rfl, rfl, _, hle, hm, hlen, hel, _⟩
    · exact ⟨[], _, rfl, SlIn.none _ _, by simp [klenL, Rows.uptoBulk]⟩
    · have each : ∀ i, i < len → ∃ tv : Tm × Value, W.cell? (a.add (i * 2)) = some (.string tv.1.nm) ∧ W.cell? (a.add (i * 2 + 1)) = some tv.2 ∧ tv.1.nm.size ≤ maxLen ∧ SlIn (· < W.heap.size) W tv.1.args tv.2 ∧ ∀ z, (elems.map (·.1))[i]? = some z → klen tv.1 + 1 ≤ Rows.uptoBulk z := by
        intro i hi
        have he := hel i hi
        rw [List.getElem?_eq_getElem (by omega)] at he
        obtain ⟨cs', h1, h2⟩ := Option.bind_eq_some_iff.1 he
        rw [cellsT] at h1
        obtain ⟨_, hl2, hcell⟩ := World.cells?_some h1
        obtain ⟨s, v, k, y, rfl, hk, hs, hv, hx1⟩ := struct_in h2
        obtain ⟨l, v', e, hin, hbk⟩ := ih k (by omega) _ _ hv
        injection e with e _
        subst e
        have e0 := hcell 0 (by omega)
        have e1 := hcell 1 (by omega)
        rw [add_add] at e0 e1
        refine ⟨(.mk s l, v), by simpa [Tm.nm] using e0, by simpa using e1, hs, hin, fun z hz => ?_⟩
        rw [List.getElem?_map, List.getElem?_eq_getElem (by omega)] at hz
        have hz' : (elems[i]'(by omega)).1 = z := by simpa using hz
        rw [← hz', hx1]
        exact text_bulk s l y.1 hbk
      obtain ⟨tvs, htl, hall⟩ := gather each
      obtain ⟨b, off, spot⟩ := a
      have hsp : tvs ≠ [] → spot = none ∧ b < W.heap.size := by
        intro hne
        obtain ⟨tv, hg⟩ : ∃ tv, tvs[0]? = some tv := by cases tvs with
          | nil => exact absurd rfl hne
          | cons a r => exact ⟨a, rfl⟩
        have h0 := (hall 0 tv hg).1
        have h2 : spot = none := by simpa [Addr.add] using World.cell?_spot h0
        subst h2
        exact ⟨rfl, by simpa [Addr.add] using block_lt_of_cell h0⟩
      have hml : (tvs.map (·.1)).length = len := by simp [htl]
      have key : ∀ (i : Nat) (t : Tm), (tvs.map (·.1))[i]? = some t → ∃ tv : Tm × Value, tvs[i]? = some tv ∧ tv.1 = t := by
        intro i t ht
        rw [List.getElem?_map] at ht
        obtain ⟨tv, h1, h2⟩ := Option.map_eq_some_iff.1 ht
        exact ⟨tv, h1, h2⟩
      refine ⟨tvs.map (·.1), .slice (some ⟨b, off, spot⟩) len cap, rfl, ?_, ?_⟩
      · rw [← hml]
        refine .mk _ cap _ (fun i => (tvs.getD i (default, undef)).2) b off (fun hne => ?_) (fun h => by cases h) (by omega) hm (fun i t ht => ?_) (fun i t ht => ?_)
        · obtain ⟨rfl, h2⟩ := hsp (by intro e; subst e; exact hne rfl)
          exact ⟨rfl, h2⟩
        · obtain ⟨tv, hg, rfl⟩ := key i t ht
          obtain ⟨h1, h2, h3, _⟩ := hall i tv hg
          obtain ⟨rfl, _⟩ := hsp (by intro e; subst e; simp at hg)
          rw [addr_add] at h1 h2
          exact ⟨h1, by simpa [List.getD, hg, Nat.add_assoc] using h2, h3⟩
        · obtain ⟨tv, hg, rfl⟩ := key i t ht
          have := (hall i tv hg).2.2.2.1
          simpa [List.getD, hg] using this
      · refine Nat.le_trans (Nat.succ_le_succ (tail_bulk (tvs.map (·.1)) (elems.map (·.1)) (by simp [htl, hlen]) (fun i t d ht hd => ?_))) (all_app _ _)
        obtain ⟨tv, hg, rfl⟩ := key i t ht
        exact (hall i tv hg).2.2.2.2 d hd
theorem cellsB : Tryz.prog.cellsOf 4 = 1 := by kernel_rfl
theorem cellsLit : Tryz.prog.cellsOf 47 = 3 := by kernel_rfl
theorem cellsLits : Tryz.prog.cellsOf 25 = 1 := by kernel_rfl
theorem cellsRule : Tryz.prog.cellsOf 27 = 3 := by kernel_rfl
theorem underLit : ∃ f0 f1 : Field, Tryz.prog.underlying 47 = some (.struct #[f0, f1]) ∧ f0.offset = 0 ∧ f1.offset = 1 ∧ f0.type = 4 ∧ f1.type = 24 := ⟨_, _, Tryz.underlying47, rfl, rfl, rfl, rfl⟩
theorem underRule : ∃ f0 f1 : Field, Tryz.prog.underlying 27 = some (.struct #[f0, f1]) ∧ f0.offset = 0 ∧ f1.offset = 2 ∧ f0.type = 24 ∧ f1.type = 25 := ⟨_, _, Tryz.underlying27, rfl, rfl, rfl, rfl⟩
theorem three_of (l : List Value) (h : l.length = 3) : ∃ a b c, l = [a, b, c] := by
  match l, h with
  | [a, b, c], _ => exact ⟨a, b, c, rfl⟩
/-- Three cells that read as a literal. -/
theorem lit_in {H : Type} {enc : TypeId × Value → H} {W : World} {base : Nat} {sp : Nat → Bool} {held : Bool} {n : Nat} {cs : List Value} {x : DataW H × List MemPlace}
    (h : DataW.trod enc Tryz.prog W base sp held n 47 cs = some x) :
    ∃ (y : Lt) (v : Value), cs = KL.cells (y, v) ∧ KL.inn (· < W.heap.size) W (y, v) ∧ klen y.2 + 3 ≤ Rows.uptoBulk x.1 := by
  obtain ⟨f0, f1, hu, o0, o1, y0, y1⟩ := underLit
  obtain ⟨xs, k, hk, hxy, hcl, hxl, hf⟩ := DataW.trod_struct hu h
  rw [cellsLit] at hcl
  obtain ⟨v0, v1, v2, rfl⟩ := three_of cs hcl
  match xs, hxl with
  | [x0, x1], _ =>
    have g0 := hf 0 f0 rfl
    have g1 := hf 1 f1 rfl
    simp [o0, o1, y0, y1, cellsB, cellsT] at g0 g1
    obtain ⟨b, q1, q2⟩ := DataW.trod_bool Tryz.underlying4 g0
    simp at q1
    subst q1
    obtain ⟨s, v, k2, y, e, _, hs, hv, hx1⟩ := struct_in g1
    injection e with e1 e2
    injection e2 with e2 _
    subst e1 e2
    obtain ⟨l, v', e', hin, hbk⟩ := slice_in2 _ _ _ hv
    injection e' with e' _
    subst e'
    refine ⟨(b, .mk s l), _, rfl, ⟨hin, hs⟩, ?_⟩
    rw [hxy]
    have := text_bulk s l y.1 hbk
    have e5 : x1.1 = _ := hx1
    simp only [List.map_cons, List.map_nil, Rows.uptoBulk, Rows.uptoBulkAll, q2]
    rw [e5]
    omega
/-- A slice value that reads as a slice of literals. -/
theorem lits_in {H : Type} {enc : TypeId × Value → H} {W : World} {base : Nat} {sp : Nat → Bool} {held : Bool} {n : Nat} {cs : List Value} {x : DataW H × List MemPlace}
    (h : DataW.trod enc Tryz.prog W base sp held n 25 cs = some x) : ∃ (l : List Lt) (v : Value), cs = [v] ∧ LIn (· < W.heap.size) W l v ∧ (l.map fun y => klen y.2 + 3).sum ≤ Rows.uptoBulk x.1 := by
  rcases DataW.trod_slice Tryz.underlying25 h with ⟨rfl, rfl⟩ | ⟨a, len, cap, elems, rest, m, hn, rfl, rfl, _, hle, hm, hlen, hel, _⟩
  · exact ⟨[], _, rfl, LIn.nil _ _, by simp⟩
  · have each : ∀ i, i < len → ∃ tv : Lt × Value, (∀ j u, (KL.cells tv)[j]? = some u → W.cell? (a.add (i * 3 + j)) = some u) ∧ KL.inn (· < W.heap.size) W tv ∧ ∀ z, (elems.map (·.1))[i]? = some z → klen tv.1.2 + 3 ≤ Rows.uptoBulk z := by
      intro i hi
      have he := hel i hi
      rw [List.getElem?_eq_getElem (by omega)] at he
      obtain ⟨cs', h1, h2⟩ := Option.bind_eq_some_iff.1 he
      rw [cellsLit] at h1
      obtain ⟨_, hl2, hcell⟩ := World.cells?_some h1
      obtain ⟨y, v, rfl, hin, hbk⟩ := lit_in h2
      refine ⟨(y, v), fun j u hu => ?_, hin, fun z hz => ?_⟩
      · have hj := (List.getElem?_eq_some_iff.1 hu).1
        have hj3 : j < 3 := by rw [KL.len] at hj; exact hj
        have e0 := hcell j (by omega)
        rw [add_add] at e0
        rw [e0]
        exact hu
      · rw [List.getElem?_map, List.getElem?_eq_getElem (by omega)] at hz
        have hz' : (elems[i]'(by omega)).1 = z := by simpa using hz
        rw [← hz']
        exact hbk
    obtain ⟨tvs, htl, hall⟩ := gather each
    obtain ⟨b, off, spot⟩ := a
    have hsp : tvs ≠ [] → spot = none ∧ b < W.heap.size := by
      intro hne
      obtain ⟨tv, hg⟩ : ∃ tv, tvs[0]? = some tv := by cases tvs with
        | nil => exact absurd rfl hne
        | cons a r => exact ⟨a, rfl⟩
      have h0 := (hall 0 tv hg).1 0 _ rfl
      have h2 : spot = none := by simpa [Addr.add] using World.cell?_spot h0
      subst h2
      exact ⟨rfl, by simpa [Addr.add] using block_lt_of_cell h0⟩
    refine ⟨tvs.map (·.1), .slice (some ⟨b, off, spot⟩) len cap, rfl, ⟨tvs, rfl, _, cap, by rw [htl], by omega, hm, fun x hx => ?_, fun hl => ?_⟩, ?_⟩
    · obtain ⟨i, hi⟩ := List.mem_iff_getElem?.1 hx
      exact (hall i x hi).2.1
    · obtain ⟨rfl, hb⟩ := hsp (by intro e; subst e; simp at hl)
      refine ⟨b, off, rfl, hb, fun i x hx j u hu => ?_⟩
      have := (hall i x hx).1 j u hu
      rw [addr_add, ← Nat.add_assoc] at this
      exact this
    · have key : ∀ (L : List (Lt × Value)) (es : List (DataW H)), L.length = es.length → (∀ (i : Nat) t d, L[i]? = some t → es[i]? = some d → klen t.1.2 + 3 ≤ Rows.uptoBulk d) → (L.map fun y => klen y.1.2 + 3).sum ≤ Rows.uptoBulkAll es := by
        intro L
        induction L with
        | nil => intro es _ _; simp
        | cons t L ih =>
          intro es hl hh
          cases es with
          | nil => simp at hl
          | cons d es =>
            have h0 := hh 0 t d rfl rfl
            have h1 := ih es (by simpa using hl) (fun i t d ht hd => hh (i + 1) t d (by simpa using ht) (by simpa using hd))
            simp only [List.map_cons, List.sum_cons, Rows.uptoBulkAll]
            omega
      refine Nat.le_trans ?_ (all_app0 _ _)
      have := key tvs (elems.map (·.1)) (by simp [htl, hlen]) (fun i t d ht hd => (hall i t ht).2.2 d hd)
      rw [List.map_map]
      exact this
/-- Three cells that read as a rule. -/
theorem rule_in {H : Type} {enc : TypeId × Value → H} {W : World} {base : Nat} {sp : Nat → Bool} {held : Bool} {n : Nat} {cs : List Value} {x : DataW H × List MemPlace}
    (h : DataW.trod enc Tryz.prog W base sp held n 27 cs = some x) :
    ∃ (y : Rl) (v v' : Value), cs = KR.cells (y, v, v') ∧ KR.inn (· < W.heap.size) W (y, v, v') ∧ klen y.1 + (y.2.map fun y => klen y.2 + 3).sum + 1 ≤ Rows.uptoBulk x.1 := by
  obtain ⟨f0, f1, hu, o0, o1, y0, y1⟩ := underRule
  obtain ⟨xs, k, hk, hxy, hcl, hxl, hf⟩ := DataW.trod_struct hu h
  rw [cellsRule] at hcl
  obtain ⟨v0, v1, v2, rfl⟩ := three_of cs hcl
  match xs, hxl with
  | [x0, x1], _ =>
    have g0 := hf 0 f0 rfl
    have g1 := hf 1 f1 rfl
    simp [o0, o1, y0, y1, cellsLits, cellsT] at g0 g1
    obtain ⟨s, v, k2, y, e, _, hs, hv, hx1⟩ := struct_in g0
    injection e with e1 e2
    injection e2 with e2 _
    subst e1 e2
    obtain ⟨l, v', e', hin, hbk⟩ := slice_in2 _ _ _ hv
    injection e' with e' _
    subst e'
    obtain ⟨m, v', e', hin2, hbk2⟩ := lits_in g1
    injection e' with e' _
    subst e'
    refine ⟨(.mk s l, m), _, _, rfl, ⟨hin, hs, hin2⟩, ?_⟩
    rw [hxy]
    have := text_bulk s l y.1 hbk
    have e5 : x0.1 = _ := hx1
    simp only [List.map_cons, List.map_nil, Rows.uptoBulk, Rows.uptoBulkAll]
    rw [e5]
    omega
set_option maxRecDepth 100000 in
theorem open_rule2 {H : Type} {enc : TypeId × Value → H} {W : World} {b0 : Nat} {base : Nat} {sp : Nat → Bool} {held : Bool} {v : Value} {d : DataW H} {p : List MemPlace}
    (hv : Value.okWide Tryz.prog W .any b0 27 v) (h : DataW.Trod enc Tryz.prog W base sp held 27 v d p) : ∃ (r : Rl) (sa sl : Value), v = .agg #[.string r.1.nm, sa, sl] ∧ r.1.nm.size ≤ maxLen ∧ SlIn (· < W.heap.size) W r.1.args sa ∧ LIn (· < W.heap.size) W r.2 sl ∧ klen r.1 + (r.2.map fun y => klen y.2 + 3).sum + 1 ≤ Rows.uptoBulk d := by
  obtain ⟨cs, rfl, hsz⟩ := WideShapes.okWide_struct underRule.choose_spec.choose_spec.1 hv
  obtain ⟨fuel, hf⟩ := h
  obtain ⟨y, v, v', e, hin, hbk⟩ := rule_in hf
  have e : cs.toList = [.string y.1.nm, v, v'] := by simpa [Value.cells, KR] using e
  obtain rfl : cs = #[.string y.1.nm, v, v'] := Array.ext' e
  exact ⟨y, v, v', rfl, hin.2.1, hin.1, hin.2.2, hbk⟩
end UnqG
end Go.Proofs.YtdkpflojdnkbnaaGreatDoor
/- The listed variables of the laws of normal forms. No conditions. -/
namespace Go.Proofs.YtdkpflojdnkbnaaGreatDoor
open Go Go.RowKit Go.ChangeShapes Go.WideShapes Go.ChangeAt
namespace NolU
open LexM TermM TermI Kit
/-! ### The listed variables -/
abbrev list : List (String × DataW Unit) := [("math/bits.deBruijn32tab", Rows.laid_math_bits_deBruijn32tab), ("math/bits.deBruijn64tab", Rows.laid_math_bits_deBruijn64tab), ("internal/strconv.uint64pow10", Rows.laid_internal_strconv_uint64pow10), ("gameplayer/term.nameEnds", Rows.laid_gameplayer_term_nameEnds)]
def cellsOf (zs : List Int) (k : IntKind) : Array Value := (zs.map fun z => Value.int k z).toArray
noncomputable def laidWorld (os : Os) : World :=
  TermJ.lay1 (TermJ.lay1 (TermJ.lay1 (TermJ.lay1 (World.holding Tryz.prog os ⟨#[], #[], []⟩)
    1 (cellsOf Lib.pow10Tab .u64))
    3 (cellsOf [0, 1, 28, 2, 29, 14, 24, 3, 30, 22, 20, 15, 25, 17, 4, 8, 31, 27, 13, 23, 21, 19, 16, 7, 26, 12, 18, 6, 11, 5, 10, 9] .u8))
    4 (cellsOf [0, 1, 56, 2, 57, 49, 28, 3, 61, 58, 42, 50, 38, 29, 17, 4, 62, 47, 59, 36, 45, 43, 51, 22, 53, 39, 33, 30, 24, 18, 12, 5, 63, 55, 48, 27, 60, 41, 37, 16, 46, 35, 44, 21, 52, 32, 23, 11, 54, 26, 40, 15, 34, 20, 31, 10, 25, 14, 19, 9, 13, 8, 7, 6] .u8))
    0 #[.int .u8 40, .int .u8 44, .int .u8 41]
theorem laid_met_gen (os : Os) (args : Array Value) : laidMet Tryz.prog list ((laidWorld os).forCall (fun _ _ => 0) ⟨#[], args, []⟩).memory :=
  laidMet_of_run' 8 (by kernel_rfl) (by kernel_rfl)
theorem ends_gen {W : World} (h : laidMetH Tryz.prog list W) : TermT.Wd W := by
  have h1 : laidMet Tryz.prog list W := h
  have h2 := laidMet.filter (fun x => x.1 == "gameplayer/term.nameEnds") h1
  have h3 : laidMet Tryz.prog TermJ.list W := h2
  exact TermJ.ends_gen h3
end NolU
end Go.Proofs.YtdkpflojdnkbnaaGreatDoor
/- Lists of rules that come in are opened; what bounds the keys of their heads. No conditions. -/
namespace Go.Proofs.YtdkpflojdnkbnaaGreatDoor
open Go Go.RowKit Go.ChangeShapes Go.Deep
namespace NolG
open LexM TermM TermI Kit UniK UniM LigM UnqG
theorem all_mem {H : Type} : ∀ {es : List (DataW H)} {d : DataW H}, d ∈ es → Rows.uptoBulk d ≤ Rows.uptoBulkAll es
  | [], d, h => by simp at h
  | e :: es, d, h => by
    simp only [Rows.uptoBulkAll]
    rcases List.mem_cons.1 h with rfl | h
    · omega
    · have := all_mem h
      omega
/-- A slice value that reads as a slice of rules. -/
theorem rules_in {H : Type} {enc : TypeId × Value → H} {W : World} {base : Nat} {sp : Nat → Bool} {held : Bool} {n : Nat} {cs : List Value} {x : DataW H × List MemPlace}
    (h : DataW.trod enc Tryz.prog W base sp held n 37 cs = some x) : ∃ (l : List Rl) (v : Value), cs = [v] ∧ RIn (· < W.heap.size) W l v ∧ ∀ r ∈ l, klen r.1 ≤ Rows.uptoBulk x.1 := by
  rcases DataW.trod_slice Tryz.underlying37 h with ⟨rfl, rfl⟩ | ⟨a, len, cap, elems, rest, m, hn, rfl, rfl, _, hle, hm, hlen, hel, _⟩
  · exact ⟨[], _, rfl, ⟨[], rfl, RowG.nil _ _⟩, fun r h => by simp at h⟩
  · have each : ∀ i, i < len → ∃ tv : Rl × Value × Value, (∀ j u, (KR.cells tv)[j]? = some u → W.cell? (a.add (i * 3 + j)) = some u) ∧ KR.inn (· < W.heap.size) W tv ∧ ∀ z, (elems.map (·.1))[i]? = some z → klen tv.1.1 ≤ Rows.uptoBulk z := by
      intro i hi
      have he := hel i hi
      rw [List.getElem?_eq_getElem (by omega)] at he
      obtain ⟨cs', h1, h2⟩ := Option.bind_eq_some_iff.1 he
      rw [cellsRule] at h1
      obtain ⟨_, hl2, hcell⟩ := World.cells?_some h1
      obtain ⟨y, v, v', rfl, hin, hbk⟩ := rule_in h2
      refine ⟨(y, v, v'), fun j u hu => ?_, hin, fun z hz => ?_⟩
      · have hj := (List.getElem?_eq_some_iff.1 hu).1
        have hj3 : j < 3 := by rw [KR.len] at hj; exact hj
        have e0 := hcell j (by omega)
        rw [add_add] at e0
        rw [e0]
        exact hu
      · rw [List.getElem?_map, List.getElem?_eq_getElem (by omega)] at hz
        have hz' : (elems[i]'(by omega)).1 = z := by simpa using hz
        rw [← hz']
        refine Nat.le_trans ?_ hbk
        show klen y.1 ≤ klen y.1 + _ + 1
        omega
    obtain ⟨tvs, htl, hall⟩ := gather each
    obtain ⟨b, off, spot⟩ := a
    have hsp : tvs ≠ [] → spot = none ∧ b < W.heap.size := by
      intro hne
      obtain ⟨tv, hg⟩ : ∃ tv, tvs[0]? = some tv := by cases tvs with
        | nil => exact absurd rfl hne
        | cons a r => exact ⟨a, rfl⟩
      have h0 := (hall 0 tv hg).1 0 _ rfl
      have h2 : spot = none := by simpa [Addr.add] using World.cell?_spot h0
      subst h2
      exact ⟨rfl, by simpa [Addr.add] using block_lt_of_cell h0⟩
    refine ⟨tvs.map (·.1), .slice (some ⟨b, off, spot⟩) len cap, rfl, ⟨tvs, rfl, _, cap, by rw [htl], by omega, hm, fun x hx => ?_, fun hl => ?_⟩, fun r hr => ?_⟩
    · obtain ⟨i, hi⟩ := List.mem_iff_getElem?.1 hx
      exact (hall i x hi).2.1
    · obtain ⟨rfl, hb⟩ := hsp (by intro e; subst e; simp at hl)
      refine ⟨b, off, rfl, hb, fun i x hx j u hu => ?_⟩
      have := (hall i x hx).1 j u hu
      rw [addr_add, ← Nat.add_assoc] at this
      exact this
    · obtain ⟨x, hx, rfl⟩ := List.mem_map.1 hr
      obtain ⟨i, hi⟩ := List.mem_iff_getElem?.1 hx
      have hil := (List.getElem?_eq_some_iff.1 hi).1
      obtain ⟨z, hz⟩ : ∃ z, (elems.map (·.1))[i]? = some z := ⟨(elems.map (·.1))[i]'(by simp; omega), by rw [List.getElem?_eq_getElem (by simp; omega)]⟩
      exact Nat.le_trans ((hall i x hi).2.2 z hz) (Nat.le_trans (all_mem (List.mem_of_getElem? hz)) (all_app0 _ _))
set_option maxRecDepth 100000 in
theorem open_rules {H : Type} {enc : TypeId × Value → H} {W : World} {b0 : Nat} {base : Nat} {sp : Nat → Bool} {held : Bool} {v : Value} {d : DataW H} {p : List MemPlace}
    (hv : Value.okWide Tryz.prog W .any b0 37 v) (h : DataW.Trod enc Tryz.prog W base sp held 37 v d p) : ∃ l, RIn (· < W.heap.size) W l v ∧ ∀ r ∈ l, klen r.1 ≤ Rows.uptoBulk d := by
  obtain ⟨a0, m0, c0, rfl⟩ := Go.WideShapes.okWide_slice Tryz.underlying37 hv
  obtain ⟨fuel, hf⟩ := h
  obtain ⟨l, v, e, hin, hbk⟩ := rules_in hf
  simp [Value.cells] at e
  subst e
  exact ⟨l, hin, hbk⟩
end NolG
end Go.Proofs.YtdkpflojdnkbnaaGreatDoor
