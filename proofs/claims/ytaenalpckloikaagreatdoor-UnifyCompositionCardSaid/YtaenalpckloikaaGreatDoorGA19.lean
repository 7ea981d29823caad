/- Texts laid together: TermJ; UnnA; UniY; UniZ. Their own heads stand before each. -/
import Derived.Test.YtaenalpckloikaaGreatDoorGA10
import Derived.Deep.DeepHandedRow
import Derived.Lib.LaidTab
import Derived.LaidSub
import Derived.OpenShut
import Derived.Deep.RegionHeld
import Derived.Test.YtaenalpckloikaaGreatDoorGA18
import Derived.Test.YtaenalpckloikaaGreatDoorGA12
import Derived.Lib.LaidU8
import Derived.ChangeMaps5
import Derived.Test.YtaenalpckloikaaGreatDoorGA14
import Derived.Deep.RegionLaw
import Derived.Deep.RegionWith
/- The listed variable of layer 1's rows (the bytes that end names): a world that holds it, and what a row's list gives a walk. No conditions. -/
namespace Go.Proofs.YtaenalpckloikaaGreatDoor
open Go Go.RowKit Go.ChangeShapes Go.WideShapes Go.ChangeAt
namespace TermJ
open TermT
abbrev list : List (String × DataW Unit) := [("gameplayer/term.nameEnds", Rows.laid_gameplayer_term_nameEnds)]
noncomputable def lay1 (w : World) (g : Nat) (cs : Array Value) : World :=
  { w with heap := w.heap.modify g fun
      | .cells _ t frozen => .cells cs t frozen
      | o => o }
noncomputable def laidWorld (os : Os) : World :=
  lay1 (World.holding Tryz.prog os ⟨#[], #[], []⟩) 0 #[.int .u8 40, .int .u8 44, .int .u8 41]
theorem laid_met_gen (os : Os) (args : Array Value) : laidMet Tryz.prog list ((laidWorld os).forCall (fun _ _ => 0) ⟨#[], args, []⟩).memory :=
  laidMet_of_run' 8 (by kernel_rfl) (by kernel_rfl)
theorem ints {H : Type} {enc : TypeId × Value → H} {P : Program} {w : World} {base : Nat} {sp : Nat → Bool} {held : Bool} {fuel : Nat} {t e : TypeId} {n : Nat} {cs : List Value} {ls : List Int} {p : List MemPlace}
    (ht : P.underlying t = some (.array n e)) (he : P.underlying e = some (.int .u8)) (hce : P.cellsOf e = 1) (hct : P.cellsOf t = n)
    (h : DataW.trod enc P w base sp held fuel t cs = some (.agg (ls.map fun l => .lit (.int .u8 l)), p)) : cs = ls.map fun l => Value.int .u8 l := by
  obtain ⟨xs, m, _, hx, hlen, hxl, hall⟩ := DataW.trod_array ht h
  have hxs : xs.map (·.1) = ls.map fun l => (DataW.lit (.int .u8 l) : DataW H) := by
    have := congrArg Prod.fst hx
    simpa using this.symm
  have hll : ls.length = n := by
    have := congrArg List.length hxs
    simp at this
    omega
  apply List.ext_getElem?
  intro i
  by_cases hi : i < n
  · obtain ⟨b, hb⟩ : ∃ b, xs[i]? = some b := ⟨xs[i]'(by omega), by simp⟩
    have hf := hall i hi
    rw [hb, hce, Nat.mul_one] at hf
    obtain ⟨s, hc, rfl, _⟩ := DataW.trod_int he hf
    have h1 : cs[i]? = some (.int .u8 s) := by
      have := congrArg (·[0]?) hc
      simpa [List.getElem?_take, List.getElem?_drop] using this
    have h2 : (xs.map (·.1))[i]? = some (DataW.lit (.int .u8 s) : DataW H) := by simp [hb]
    rw [hxs] at h2
    simp only [List.getElem?_map, Option.map_eq_some_iff, DataW.lit.injEq, Lit.int.injEq] at h2
    obtain ⟨l, hl, _, hls⟩ := h2
    rw [h1, List.getElem?_map, hl, hls]
    rfl
  · rw [List.getElem?_eq_none (by omega), List.getElem?_eq_none (by simp; omega)]
theorem gEnds : Tryz.prog.globalNamed "gameplayer/term.nameEnds" = some 0 := by kernel_rfl
theorem ends_gen {W : World} (h : laidMetH Tryz.prog list W) : Wd W := by
  have h1 : laidMet Tryz.prog list W := h
  obtain ⟨ps, ⟨g', t', cs, fuel, p, q, hg', ht', hvar, hd, _, _⟩, _⟩ := h1
  obtain rfl := Option.some.inj (gEnds.symm.trans hg')
  obtain rfl := Option.some.inj ((show (Tryz.prog.globals[0]?).map (·.type) = some 144 by kernel_rfl).symm.trans ht')
  have hc := ints (ls := [40, 44, 41]) Tryz.underlying144 Tryz.underlying5 (by kernel_rfl) (by kernel_rfl) hd
  have c0 := World.var?_cell gEnds hvar 0
  have c1 := World.var?_cell gEnds hvar 1
  have c2 := World.var?_cell gEnds hvar 2
  have e : cs = #[.int .u8 40, .int .u8 44, .int .u8 41] := Array.ext' hc
  rw [e] at c0 c1 c2
  exact ⟨World.block_lt_of_cell? W _ c0, c0, c1, c2⟩
end TermJ
end Go.Proofs.YtaenalpckloikaaGreatDoor
/- How a list of bindings that comes in is opened; the four listed variables of the unify rows: a world that holds them, and what a row's list gives a walk. No conditions. -/
namespace Go.Proofs.YtaenalpckloikaaGreatDoor
open Go Go.RowKit Go.ChangeShapes Go.WideShapes Go.ChangeAt Go.Deep
namespace UnnA
open LexM TermM TermI Kit TermU UniM UniK
theorem cellsBd : Tryz.prog.cellsOf 52 = 3 := by kernel_rfl
theorem underBd : ∃ f0 f1 : Field, Tryz.prog.underlying 52 = some (.struct #[f0, f1]) ∧ f0.offset = 0 ∧ f1.offset = 1 ∧ f0.type = 9 ∧ f1.type = 27 := ⟨_, _, Tryz.underlying52, rfl, rfl, rfl, rfl⟩
theorem three_of (l : List Value) (h : l.length = 3) : ∃ a b c, l = [a, b, c] := by
  match l, h with
  | [a, b, c], _ => exact ⟨a, b, c, rfl⟩
/-- Three cells that read as a binding. -/
theorem bind_in {H : Type} {enc : TypeId × Value → H} {W : World} {base : Nat} {sp : Nat → Bool} {held : Bool} {n : Nat} {cs : List Value} {x : DataW H × List MemPlace}
    (h : DataW.trod enc Tryz.prog W base sp held n 52 cs = some x) : ∃ (y : Bd) (v : Value), cs = KB.cells (y, v) ∧ KB.inn (· < W.heap.size) W (y, v) := by
  obtain ⟨f0, f1, hu, o0, o1, y0, y1⟩ := underBd
  obtain ⟨xs, k, hk, hxy, hcl, hxl, hf⟩ := DataW.trod_struct hu h
  rw [cellsBd] at hcl
  obtain ⟨v0, v1, v2, rfl⟩ := three_of cs hcl
  match xs, hxl with
  | [x0, x1], _ =>
    have g0 := hf 0 f0 rfl
    have g1 := hf 1 f1 rfl
    simp [o0, o1, y0, y1, cellsS, cellsT] at g0 g1
    obtain ⟨s, q1, q2, hs⟩ := DataW.trod_string Tryz.underlying9 g0
    simp at q1
    subst q1
    obtain ⟨t, v, k2, y, e, _, ht, hv, hx1⟩ := struct_in g1
    injection e with e1 e2
    injection e2 with e2 _
    subst e1 e2
    obtain ⟨l, v', e', hin⟩ := slice_in _ _ _ hv
    injection e' with e' _
    subst e'
    exact ⟨(s, .mk t l), _, rfl, hin, ht, hs⟩
/-- A slice value that reads as a slice of bindings. -/
theorem binds_in {H : Type} {enc : TypeId × Value → H} {W : World} {base : Nat} {sp : Nat → Bool} {held : Bool} {n : Nat} {cs : List Value} {x : DataW H × List MemPlace}
    (h : DataW.trod enc Tryz.prog W base sp held n 22 cs = some x) : ∃ (l : List Bd) (v : Value), cs = [v] ∧ SIn (· < W.heap.size) W l v := by
  rcases DataW.trod_slice Tryz.underlying22 h with ⟨rfl, rfl⟩ | ⟨a, len, cap, elems, rest, m, hn, rfl, rfl, _, hle, hm, hlen, hel, _⟩
  · exact ⟨[], _, rfl, SIn.nil _ _⟩
  · have each : ∀ i, i < len → ∃ tv : Bd × Value, (∀ j u, (KB.cells tv)[j]? = some u → W.cell? (a.add (i * 3 + j)) = some u) ∧ KB.inn (· < W.heap.size) W tv := by
      intro i hi
      have he := hel i hi
      rw [List.getElem?_eq_getElem (by omega)] at he
      obtain ⟨cs', h1, h2⟩ := Option.bind_eq_some_iff.1 he
      rw [cellsBd] at h1
      obtain ⟨_, hl2, hcell⟩ := World.cells?_some h1
      obtain ⟨y, v, rfl, hin⟩ := bind_in h2
      refine ⟨(y, v), fun j u hu => ?_, hin⟩
      have hj := (List.getElem?_eq_some_iff.1 hu).1
      have hj3 : j < 3 := by rw [KB.len] at hj; exact hj
      have e0 := hcell j (by omega)
      rw [add_add] at e0
      rw [e0]
      exact hu
    obtain ⟨tvs, htl, hall⟩ := gather each
    obtain ⟨b, off, spot⟩ := a
    have hsp : tvs ≠ [] → spot = none ∧ b < W.heap.size := by
      intro hne
      obtain ⟨tv, hg⟩ : ∃ tv, tvs[0]? = some tv := by cases tvs with
        | nil => exact absurd rfl hne
        | cons a r => exact ⟨a, rfl⟩
      have h0 := (hall 0 tv hg).1 0 _ rfl
      have h2 : spot = none := by simpa [Addr.add] using World.cell?_spot h0
      subst h2
      exact ⟨rfl, by simpa [Addr.add] using block_lt_of_cell h0⟩
    refine ⟨tvs.map (·.1), .slice (some ⟨b, off, spot⟩) len cap, rfl, tvs, rfl, _, cap, by rw [htl], by omega, hm, fun x hx => ?_, fun hl => ?_⟩
    · obtain ⟨i, hi⟩ := List.mem_iff_getElem?.1 hx
      exact (hall i x hi).2
    · obtain ⟨rfl, hb⟩ := hsp (by intro e; subst e; simp at hl)
      refine ⟨b, off, rfl, hb, fun i x hx j u hu => ?_⟩
      have := (hall i x hx).1 j u hu
      rw [addr_add, ← Nat.add_assoc] at this
      exact this
set_option maxRecDepth 100000 in
theorem open_binds {H : Type} {enc : TypeId × Value → H} {W : World} {b0 : Nat} {base : Nat} {sp : Nat → Bool} {held : Bool} {v : Value} {d : DataW H} {p : List MemPlace}
    (hv : Value.okWide Tryz.prog W .any b0 22 v) (h : DataW.Trod enc Tryz.prog W base sp held 22 v d p) : ∃ l, SIn (· < W.heap.size) W l v := by
  obtain ⟨a0, m0, c0, rfl⟩ := Go.WideShapes.okWide_slice Tryz.underlying22 hv
  obtain ⟨fuel, hf⟩ := h
  obtain ⟨l, v, e, hin⟩ := binds_in hf
  simp [Value.cells] at e
  subst e
  exact ⟨l, hin⟩
/-! ### The listed variables -/
abbrev list : List (String × DataW Unit) := [("math/bits.deBruijn32tab", Rows.laid_math_bits_deBruijn32tab), ("math/bits.deBruijn64tab", Rows.laid_math_bits_deBruijn64tab), ("internal/strconv.uint64pow10", Rows.laid_internal_strconv_uint64pow10), ("gameplayer/term.nameEnds", Rows.laid_gameplayer_term_nameEnds)]
def cellsOf (zs : List Int) (k : IntKind) : Array Value := (zs.map fun z => Value.int k z).toArray
noncomputable def laidWorld (os : Os) : World :=
  TermJ.lay1 (TermJ.lay1 (TermJ.lay1 (TermJ.lay1 (World.holding Tryz.prog os ⟨#[], #[], []⟩)
    1 (cellsOf Lib.pow10Tab .u64))
    2 (cellsOf [0, 1, 28, 2, 29, 14, 24, 3, 30, 22, 20, 15, 25, 17, 4, 8, 31, 27, 13, 23, 21, 19, 16, 7, 26, 12, 18, 6, 11, 5, 10, 9] .u8))
    3 (cellsOf [0, 1, 56, 2, 57, 49, 28, 3, 61, 58, 42, 50, 38, 29, 17, 4, 62, 47, 59, 36, 45, 43, 51, 22, 53, 39, 33, 30, 24, 18, 12, 5, 63, 55, 48, 27, 60, 41, 37, 16, 46, 35, 44, 21, 52, 32, 23, 11, 54, 26, 40, 15, 34, 20, 31, 10, 25, 14, 19, 9, 13, 8, 7, 6] .u8))
    0 #[.int .u8 40, .int .u8 44, .int .u8 41]
theorem laid_met_gen (os : Os) (args : Array Value) : laidMet Tryz.prog list ((laidWorld os).forCall (fun _ _ => 0) ⟨#[], args, []⟩).memory :=
  laidMet_of_run' 8 (by kernel_rfl) (by kernel_rfl)
theorem ends_gen {W : World} (h : laidMetH Tryz.prog list W) : TermT.Wd W := by
  have h1 : laidMet Tryz.prog list W := h
  have h2 := laidMet.filter (fun x => x.1 == "gameplayer/term.nameEnds") h1
  have h3 : laidMet Tryz.prog TermJ.list W := h2
  exact TermJ.ends_gen h3
theorem awake_all {W : World} (h : TermT.Wd W) : UniW.Aw W := fun w' k => UnmL.awake_any w' (h.below k h.1)
end UnnA
end Go.Proofs.YtaenalpckloikaaGreatDoor
/- Instances are matched: plain facts for UnifyInstances. No conditions. -/
namespace Go.Proofs.YtaenalpckloikaaGreatDoor
open Go
namespace UniY
open LexM TermM TermH UniM UniA UniC UniE UniG UniH UniO UniP UniT
/-- The variables of a term are bound. -/
def Bnd (s : List Bd) (p : Tm) : Prop := ∀ v ∈ leavesT p, varB v = true → ∃ u, lookS s v = some u
theorem look_mem {s : List Bd} {v : ByteArray} {u : Tm} (h : lookS s v = some u) : (v, u) ∈ s := by
  unfold lookS at h
  cases hf : s.find? (fun b => eqB b.1 v) with
  | none => rw [hf] at h; cases h
  | some y =>
    rw [hf] at h
    have e1 : eqB y.1 v = true := by simpa using List.find?_some (p := fun b : Bd => eqB b.1 v) hf
    have e2 : y.2 = u := by simpa using h
    have := List.mem_of_find?_eq_some hf
    rw [eqB_iff] at e1
    rw [← e1, ← e2]
    exact this
theorem look_of {s : List Bd} (hS : Srt s) {v : ByteArray} {u : Tm} (h : (v, u) ∈ s) : lookS s v = some u := by
  obtain ⟨i, hi⟩ := List.mem_iff_getElem?.1 h
  exact look_found hS hi ((lex_zero _ _).2 rfl)
theorem bnd_mono {s1 s2 : List Bd} (hS : Srt s2) (h : ∀ y ∈ s1, y ∈ s2) {p : Tm} (hb : Bnd s1 p) : Bnd s2 p := by
  intro v hv hx
  obtain ⟨u, hu⟩ := hb v hv hx
  exact ⟨u, look_of hS (h _ (look_mem hu))⟩
theorem leaves_mem {v : ByteArray} : ∀ {l : List Tm}, v ∈ leavesL l ↔ ∃ x ∈ l, v ∈ leavesT x
  | [] => by simp [leavesL]
  | t :: l => by simp [leavesL, leaves_mem (l := l)]
theorem bnd_arg {s : List Bd} {n : ByteArray} {l : List Tm} (h : Bnd s (.mk n l)) {x : Tm} (hx : x ∈ l) : Bnd s x := by
  intro v hv
  have : v ∈ leavesT (.mk n l) := by
    unfold leavesT
    cases l with
    | nil => cases hx
    | cons a r => simp only [List.isEmpty_cons, Bool.false_eq_true, if_false]; exact leaves_mem.2 ⟨x, hx, hv⟩
  exact h v this
theorem isv_nil {n : ByteArray} {l : List Tm} (h : isV (.mk n l) = true) : l = [] ∧ varB n = true := by
  unfold isV at h
  rw [Bool.and_eq_true] at h
  exact ⟨by simpa [Tm.args] using h.1, h.2⟩
theorem bnd_var {s : List Bd} {n : ByteArray} (h : Bnd s (.mk n [])) (hv : varB n = true) : ∃ u, lookS s n = some u := h n (by simp [leavesT]) hv
theorem ext_self (lim : Bool) (s : List Bd) (hV : ∀ b ∈ s, varB b.1 = true) (p : Tm) : Bnd s p → extP lim p (appT s p) s = some s := by
  induction p using Tm.ind with
  | h n l ih =>
    intro hb
    by_cases hv : isV (.mk n l) = true
    · obtain ⟨rfl, hx⟩ := isv_nil hv
      obtain ⟨u, hu⟩ := bnd_var hb hx
      rw [extP, if_pos hv]
      unfold bindP
      simp [appT, hu, cmp_zero]
    · have hv0 : isV (.mk n l) = false := by simpa using hv
      rw [app_same hV n l hv0, extP, if_neg hv]
      have e : (eqB n (Tm.mk n (l.map (appT s))).nm && decide (l.length = (Tm.mk n (l.map (appT s))).args.length)) = true := by
        simp [Tm.nm, Tm.args, eqB]
      rw [if_pos e]
      show extL lim l (l.map (appT s)) s = some s
      have hb' : ∀ x ∈ l, Bnd s x := fun x hx => bnd_arg hb hx
      clear hb hv hv0 e
      induction l with
      | nil => rfl
      | cons a r ihl =>
        simp only [List.map_cons, extL]
        rw [ih a (by simp) (hb' a (by simp))]
        exact ihl (fun x hx => ih x (by simp [hx])) (fun x hx => hb' x (by simp [hx]))
theorem ext_inst (s : List Bd) (hS : Srt s) (hV : ∀ b ∈ s, varB b.1 = true) (p : Tm) : ∀ s0 : List Bd, Bnd s p → Srt s0 → (∀ y ∈ s0, y ∈ s) → ∃ s1, extP false p (appT s p) s0 = some s1 ∧ Srt s1 ∧ (∀ y ∈ s1, y ∈ s) ∧ (∀ y ∈ s0, y ∈ s1) ∧ Bnd s1 p := by
  induction p using Tm.ind with
  | h n l ih =>
    intro s0 hb h0 hsub
    by_cases hv : isV (.mk n l) = true
    · obtain ⟨rfl, hx⟩ := isv_nil hv
      obtain ⟨u, hu⟩ := bnd_var hb hx
      have ea : appT s (.mk n []) = u := by simp [appT, hu]
      rw [ea, extP, if_pos hv]
      unfold bindP
      have bn : ∀ s1, Srt s1 → (n, u) ∈ s1 → Bnd s1 (.mk n []) := by
        intro s1 h1 hm v hv' _
        have : v = n := by simpa [leavesT] using hv'
        subst this
        exact ⟨u, look_of h1 hm⟩
      cases hl : lookS s0 n with
      | some u' =>
        have hm := look_mem hl
        have := look_of hS (hsub _ hm)
        rw [hu] at this
        cases this
        simp only [(cmp_zero u u).2 rfl, if_true]
        exact ⟨s0, rfl, h0, hsub, fun y hy => hy, bn s0 h0 hm⟩
      | none =>
        simp only [Bool.false_and, Bool.false_eq_true, if_false]
        refine ⟨_, rfl, put_srt n u s0 h0 hl, fun y hy => ?_, fun y hy => put_mem.2 (Or.inr hy), bn _ (put_srt n u s0 h0 hl) (put_mem.2 (Or.inl rfl))⟩
        rcases put_mem.1 hy with rfl | hy
        · exact look_mem hu
        · exact hsub y hy
    · have hv0 : isV (.mk n l) = false := by simpa using hv
      rw [app_same hV n l hv0, extP, if_neg hv]
      have e : (eqB n (Tm.mk n (l.map (appT s))).nm && decide (l.length = (Tm.mk n (l.map (appT s))).args.length)) = true := by
        simp [Tm.nm, Tm.args, eqB]
      rw [if_pos e]
      have key : ∀ (l : List Tm), (∀ x ∈ l, ∀ s0 : List Bd, Bnd s x → Srt s0 → (∀ y ∈ s0, y ∈ s) → ∃ s1, extP false x (appT s x) s0 = some s1 ∧ Srt s1 ∧ (∀ y ∈ s1, y ∈ s) ∧ (∀ y ∈ s0, y ∈ s1) ∧ Bnd s1 x) → (∀ x ∈ l, Bnd s x) → ∀ s0 : List Bd, Srt s0 → (∀ y ∈ s0, y ∈ s) → ∃ s1, extL false l (l.map (appT s)) s0 = some s1 ∧ Srt s1 ∧ (∀ y ∈ s1, y ∈ s) ∧ (∀ y ∈ s0, y ∈ s1) ∧ ∀ x ∈ l, Bnd s1 x := by
        intro l
        induction l with
        | nil => intro _ _ s0 h0 hsub; exact ⟨s0, rfl, h0, hsub, fun y hy => hy, fun x hx => by cases hx⟩
        | cons a r ihl =>
          intro hx hb s0 h0 hsub
          obtain ⟨s1, e1, b1, c1, d1, f1⟩ := hx a (by simp) s0 (hb a (by simp)) h0 hsub
          obtain ⟨s2, e2, b2, c2, d2, f2⟩ := ihl (fun x hx' => hx x (by simp [hx'])) (fun x hx' => hb x (by simp [hx'])) s1 b1 c1
          refine ⟨s2, ?_, b2, c2, fun y hy => d2 y (d1 y hy), fun x hx' => ?_⟩
          · simp only [List.map_cons, extL, e1, e2]
          · rcases List.mem_cons.1 hx' with rfl | hx'
            · exact bnd_mono b2 d2 f1
            · exact f2 x hx'
      obtain ⟨s1, e1, b1, c1, d1, f1⟩ := key l ih (fun x hx => bnd_arg hb hx) s0 h0 hsub
      refine ⟨s1, e1, b1, c1, d1, ?_⟩
      intro v hv' hx
      unfold leavesT at hv'
      cases l with
      | nil =>
        have : varB n = false := by simpa [isV, Tm.args, Tm.nm] using hv0
        have h2 : v = n := by simpa using hv'
        rw [h2, this] at hx
        cases hx
      | cons a r =>
        simp only [List.isEmpty_cons, Bool.false_eq_true, if_false] at hv'
        obtain ⟨x, hx', hv''⟩ := leaves_mem.1 hv'
        exact f1 x hx' v hv'' hx
theorem app_sub {s s1 : List Bd} (hS : Srt s) (hV : ∀ b ∈ s, varB b.1 = true) (hsub : ∀ y ∈ s1, y ∈ s) (p : Tm) : Bnd s1 p → appT s1 p = appT s p := by
  induction p using Tm.ind with
  | h n l ih =>
    intro hb
    have hV1 : ∀ b ∈ s1, varB b.1 = true := fun b h => hV b (hsub b h)
    by_cases hv : isV (.mk n l) = true
    · obtain ⟨rfl, hx⟩ := isv_nil hv
      obtain ⟨u, hu⟩ := bnd_var hb hx
      simp [appT, hu, look_of hS (hsub _ (look_mem hu))]
    · have hv0 : isV (.mk n l) = false := by simpa using hv
      rw [app_same hV n l hv0, app_same hV1 n l hv0]
      congr 1
      exact List.map_congr_left fun x hx => ih x hx (bnd_arg hb hx)
theorem len_sub : ∀ (s s1 : List Bd), Srt s → Srt s1 → (∀ y ∈ s1, y ∈ s) → s1.length ≤ s.length
  | [], s1, _, _, h => by
    cases s1 with
    | nil => exact Nat.le_refl _
    | cons a r => have := h a (by simp); cases this
  | a :: r, [], _, _, _ => Nat.zero_le _
  | a :: r, b :: r1, hS, hS1, h => by
    have irr : ∀ x : Bd, ¬ lexB x.1.data.toList x.1.data.toList < 0 := fun x => by rw [(lex_zero _ _).2 rfl]; decide
    rcases List.mem_cons.1 (h b (by simp)) with hba | hbr
    · have := len_sub r r1 (srt_tail hS) (srt_tail hS1) (fun y hy => by
        rcases List.mem_cons.1 (h y (by simp [hy])) with e | e
        · have h1 := srt_head hS1 hy
          rw [e, hba] at h1
          exact absurd h1 (irr a)
        · exact e)
      simp only [List.length_cons]
      omega
    · have hab := srt_head hS hbr
      have := len_sub r (b :: r1) (srt_tail hS) hS1 (fun y hy => by
        rcases List.mem_cons.1 (h y hy) with e | e
        · rcases List.mem_cons.1 hy with e2 | e2
          · rw [e2]; exact hbr
          · have h1 := srt_head hS1 e2
            rw [e] at h1
            have h2 := (tri_lex a.1.data.toList b.1.data.toList a.1.data.toList).2.1 hab (by omega)
            exact absurd h2 (irr a)
        · exact e)
      simp only [List.length_cons] at this ⊢
      omega
theorem leaf_keep {s : List Bd} (hV : ∀ b ∈ s, varB b.1 = true) {v : ByteArray} (hn : lookS s v = none) (p : Tm) : v ∈ leavesT p → v ∈ leavesT (appT s p) := by
  induction p using Tm.ind with
  | h n l ih =>
    intro h
    cases l with
    | nil =>
      have : v = n := by simpa [leavesT] using h
      subst this
      simp [appT, hn, leavesT]
    | cons a r =>
      have hv0 : isV (.mk n (a :: r)) = false := by simp [isV, Tm.args]
      rw [app_same hV n (a :: r) hv0]
      unfold leavesT at h ⊢
      simp only [List.isEmpty_cons, List.map_cons, Bool.false_eq_true, if_false] at h ⊢
      obtain ⟨x, hx, hv⟩ := leaves_mem.1 h
      rw [← List.map_cons]
      exact leaves_mem.2 ⟨appT s x, List.mem_map_of_mem hx, ih x hx hv⟩
theorem bnd_of {s : List Bd} (hV : ∀ b ∈ s, varB b.1 = true) {p : Tm} (h : validT true 4 (appT s p) = true) : Bnd s p := by
  intro v hv hx
  cases hl : lookS s v with
  | some u => exact ⟨u, rfl⟩
  | none =>
    have := ((ground_leaf 4 _).1 h).2 v (leaf_keep hV hl p hv)
    rw [hx] at this
    cases this
/-- A ground instance of a pattern is matched. -/
theorem inst {s : List Bd} {p : Tm} (hs : vldS s = true) (hg : validT true 4 (appT s p) = true) :
    matchP p (appT s p) s = some s ∧ ∃ t, matchP p (appT s p) [] = some t ∧ appT t p = appT s p ∧ Srt t ∧ t.length ≤ 64 ∧ ∀ y ∈ t, y ∈ s := by
  have hV : ∀ b ∈ s, varB b.1 = true := fun b hb => (vld_all hs b hb).1
  have hb := bnd_of hV hg
  obtain ⟨hS, h64⟩ := vld_srt hs
  refine ⟨by unfold matchP; rw [hs, hg]; exact ext_self true s hV p hb, ?_⟩
  have h0 : Srt [] := fun i j a b _ ha _ => by simp at ha
  obtain ⟨t, e, b, c, _, f⟩ := ext_inst s hS hV p [] hb h0 (fun y hy => by cases hy)
  have hl := len_sub s t hS b c
  refine ⟨t, ?_, app_sub hS hV c p f, b, by omega, c⟩
  unfold matchP
  rw [hg, show vldS [] = true from rfl]
  show extP true p (appT s p) [] = some t
  rw [ext_lim p _ [] h0 (Nat.zero_le _), e]
  unfold cut64
  simp only
  rw [if_pos (by omega)]
end UniY
end Go.Proofs.YtaenalpckloikaaGreatDoor
/- The walk of UnifyInstances, awake's contract as a premise. No other conditions. -/
namespace Go.Proofs.YtaenalpckloikaaGreatDoor
open Go Go.RowKit
namespace UniZ
open LexM TermM TermI Kit TermN TermS TermU TermH UniK UniM UniA UniB UniC UniD UniE UniG UniH UniJ UniO UniL UniP UniQ UniT UniV UniW UniY
theorem sizeL_le {M : Nat} : ∀ {l : List Tm}, (∀ x ∈ l, sizeT x ≤ M) → sizeL l ≤ l.length * M
  | [], _ => by simp [sizeL]
  | t :: l, h => by
    have h1 := h t (by simp)
    have h2 := sizeL_le (M := M) (l := l) (fun x hx => h x (by simp [hx]))
    simp only [sizeL, List.length_cons, Nat.add_mul, Nat.one_mul]
    omega
theorem valid_size (g : Bool) : ∀ (d : Nat) (t : Tm), validT g d t = true → sizeT t ≤ 5 ^ d
  | 0, t, h => by cases t; simp [validT] at h
  | d + 1, .mk n l, h => by
    have hp : 0 < 5 ^ d := Nat.pow_pos (by decide)
    unfold validT at h
    split at h
    · rename_i he
      cases l with
      | nil => simp only [sizeT, sizeL]; rw [Nat.pow_succ]; omega
      | cons a r => simp at he
    · rw [Bool.and_eq_true, Bool.and_eq_true, decide_eq_true_eq, List.all_eq_true] at h
      have h2 := sizeL_le (M := 5 ^ d) (l := l) (fun x hx => valid_size g d x (h.2 x hx))
      have h3 : l.length * 5 ^ d ≤ 4 * 5 ^ d := Nat.mul_le_mul_right _ h.1.1
      simp only [sizeT]
      rw [Nat.pow_succ]
      omega
set_option maxRecDepth 100000 in
set_option maxHeartbeats 3200000 in
theorem instances (p : Tm) (s : List Bd) (w : World) (sv pv : Value) (hs : SIn (· < w.heap.size) w s sv) (hp : SlIn (· < w.heap.size) w p.args pv) (hpn : p.nm.size ≤ maxLen) (AW : Aw w) :
    Calls Tryz.prog 10 #[.agg #[.string p.nm, pv], sv] w fun e w' => e = .returned (.bool true) ∧ Below w.heap.size w w' := by
  obtain ⟨p1, c1, rfl⟩ := hp.form
  obtain ⟨W2, hW2⟩ : ∃ W2, W2 = w.alloc (.cells #[.string p.nm, .slice p1 p.args.length c1] 27) := ⟨_, rfl⟩
  have G2 : Gr w W2 := by rw [hW2]; exact Gr.alloc _ _
  have H2 : Hid (Has W2 w.heap.size #[.string p.nm, .slice p1 p.args.length c1]) := Lib.hid (by rw [hW2]; exact Has.new w _ _)
  have CF := Lib.hid (fun w' (k : Below w.heap.size w w') => few_any s w.heap.size w' sv k.size (hs.deep k (Nat.le_refl _)))
  have C1 := Lib.hid (fun w' (k : Below w.heap.size w w') => UniV.small_any p w.heap.size w' _ k.size (hp.deep k (Nat.le_refl _)))
  have C2 := Lib.hid (fun w' (k : Below w.heap.size w w') => rvalid_any s w.heap.size w' sv k.size (hs.deep k (Nat.le_refl _)))
  have CA := Lib.hid (fun (h1 : partsT 100 100 p ≤ 100) (t : List Bd) (ht : ∀ b ∈ t, varB b.1 = true) w' tv (k : Below w.heap.size w w') (h : SIn (· < w'.heap.size) w' t tv) => rapply_any t ht p w'.heap.size w' tv _ (Nat.le_refl _) h ((hp.deep k (Nat.le_refl _)).weaken fun b hb => Nat.lt_of_lt_of_le hb k.size) hpn (by have := size_of h1; omega))
  have CM := Lib.hid (fun (g : Tm) (hg : validT true 4 g = true) (t : List Bd) (ht : ∀ y ∈ t, sizeT y.2 ≤ 1000000) w' tv q (k : Below w.heap.size w w') (h : SIn (· < w'.heap.size) w' t tv) (h2 : SlIn (· < w'.heap.size) w' g.args q) (hn : g.nm.size ≤ maxLen) => match_any p g t (Nat.le_trans (valid_size true 4 g hg) (by decide)) ht w'.heap.size w' tv _ q (Nat.le_refl _) h ((hp.deep k (Nat.le_refl _)).weaken fun b hb => Nat.lt_of_lt_of_le hb k.size) h2 hpn hn)
  have IN := Lib.hid (fun (hs : vldS s = true) (hg : validT true 4 (appT s p) = true) => inst hs hg)
  have HV := Lib.hid (fun (hs : vldS s = true) => fun b (hb : b ∈ s) => (vld_all hs b hb).1)
  have SS := Lib.hid (fun w' (k : Below w.heap.size w w') => (hs.deep k (Nat.le_refl _)).wide (ok' := (· < w'.heap.size)) fun b hb => Nat.lt_of_lt_of_le hb k.size)
  have GG := Lib.hid G2
  have AW' := Lib.hid AW
  have HH := Lib.hid (fun w' (k : Below W2.heap.size W2 w') => (H2.out.step0 k).two)
  clear hs hp hpn AW H2 G2
  obtain ⟨b1, hb1⟩ : ∃ b, decide (partsT 100 100 p ≤ 100) = b := ⟨_, rfl⟩
  obtain ⟨b2, hb2⟩ : ∃ b, vldS s = b := ⟨_, rfl⟩
  rw [hb1] at C1
  rw [hb2] at C2
  have HB1 := Lib.hid hb1
  have HB2 := Lib.hid hb2
  clear hb1 hb2
  unfold FewS at CF
  unfold Aw at AW'
  unfold RApR at CA
  unfold MtR at CM
  generalize p.nm = pn at *
  generalize p.args.length = pa at *
  obtain ⟨y1, y2, _⟩ := HH.out _ (Below.refl _ _)
  go_enter Tryz.func10, Tryz.ntmps10
  go_upto_region 1 with fail
  rw [← hW2]
  clear hW2
  go_wp2_with fail
  refine (CF.out _ GG.out.1).mono ?_
  rintro e w3 ⟨b, rfl, hsm, g3⟩
  have D3 := Lib.hid (next0 GG.out.1 g3.1)
  have K3 := Lib.hid g3.1
  have SM := Lib.hid hsm
  clear g3 hsm y1 y2 CF
  obtain ⟨y1, y2, _⟩ := HH.out _ K3.out
  cases b
  · clear CM CA C1 C2
    go_wp2_with fail
    refine (AW'.out _ D3.out).mono ?_
    rintro e w4 ⟨rfl, k4⟩
    have D4 := Lib.hid (next0 D3.out k4)
    go_wp2_with fail
    go_ret
    exact ⟨rfl, D4.out⟩
  · have SM2 := Lib.hid (SM.out rfl)
    clear SM
    go_wp2_with fail
    refine (C1.out _ D3.out).mono ?_
    rintro e w4 ⟨rfl, g4⟩
    have D4 := Lib.hid (next0 D3.out g4.1)
    have K4 := Lib.hid (next0 K3.out g4.1)
    clear g4 y1 y2 C1
    obtain ⟨y1, y2, _⟩ := HH.out _ K4.out
    cases b1
    · clear CM CA C2
      go_wp2_with fail
      refine (AW'.out _ D4.out).mono ?_
      rintro e w5 ⟨rfl, k5⟩
      have D5 := Lib.hid (next0 D4.out k5)
      go_wp2_with fail
      go_ret
      exact ⟨rfl, D5.out⟩
    · have CB := Lib.hid (CA.out (by have := HB1.out; rw [decide_eq_true_eq] at this; exact this))
      clear CA HB1
      go_wp2_with fail
      refine (C2.out _ D4.out).mono ?_
      rintro e w5 ⟨rfl, g5⟩
      have D5 := Lib.hid (next0 D4.out g5.1)
      have K5 := Lib.hid (next0 K4.out g5.1)
      clear g5 y1 y2 C2
      obtain ⟨y1, y2, _⟩ := HH.out _ K5.out
      cases b2
      · clear CM CB
        go_wp2_with fail
        refine (AW'.out _ D5.out).mono ?_
        rintro e w6 ⟨rfl, k6⟩
        have D6 := Lib.hid (next0 D5.out k6)
        go_wp2_with fail
        go_ret
        exact ⟨rfl, D6.out⟩
      · have IN2 := Lib.hid (IN.out HB2.out)
        have HV2 := Lib.hid (HV.out HB2.out)
        clear IN HV
        go_wp2_with fail
        refine (CB.out s HV2.out _ _ D5.out (SS.out _ D5.out)).mono ?_
        rintro e w6 ⟨q, d, rfl, hS, hgn, k6⟩
        have D6 := Lib.hid (next0 D5.out k6)
        have K6 := Lib.hid (next0 K5.out k6)
        have S6 := Lib.hid (hS.weaken (ok' := (· < w6.heap.size)) fun b hb => by have := k6.size; omega)
        have GN := Lib.hid hgn
        clear hS hgn k6 y1 y2
        generalize hgg : appT s p = g at *
        have HGG := Lib.hid hgg
        clear hgg
        obtain ⟨W7, hW7⟩ : ∃ W7, W7 = w6.alloc (.cells #[.string g.nm, .slice q g.args.length d] 27) := ⟨_, rfl⟩
        have K76 : Hid (Below w6.heap.size w6 W7) := Lib.hid (by rw [hW7]; exact below_alloc _ _)
        have H7 : Hid (Has W7 w6.heap.size #[.string g.nm, .slice q g.args.length d]) := Lib.hid (by rw [hW7]; exact Has.new _ _ _)
        have D7 := Lib.hid (next0 D6.out K76.out)
        have K7 := Lib.hid (next0 K6.out K76.out)
        have S7 := Lib.hid (fun w' (k : Below W7.heap.size W7 w') => (S6.out.deep (next0 K76.out k) (Nat.le_refl _)).weaken (ok' := (· < w'.heap.size)) fun b hb => Nat.lt_of_lt_of_le hb (next0 K76.out k).size)
        have CG := Lib.hid (fun w' (k : Below W7.heap.size W7 w') => TermV.rground_any g w'.heap.size w' _ (Nat.le_refl _) GN.out (S7.out w' k))
        have HH7 := Lib.hid (fun w' (k : Below W7.heap.size W7 w') => And.intro (HH.out w' (next0 K7.out k)) (H7.out.step0 k).two)
        clear H7 S6 HH
        obtain ⟨⟨y1, y2, _⟩, z1, z2, _⟩ := HH7.out _ (Below.refl _ _)
        have CT := Lib.hid (fun (q' : Value) w' (k : Below W7.heap.size W7 w') (h : SlIn (· < w'.heap.size) w' g.args q') => TermEq.term_any g true w'.heap.size w' q' g (.slice q g.args.length d) (by simp) (Nat.le_refl _) h (S7.out w' k))
        have CM2 := Lib.hid (fun (hg : validT true 4 g = true) (t : List Bd) (ht : ∀ y ∈ t, sizeT y.2 ≤ 1000000) w' tv (k : Below W7.heap.size W7 w') (h : SIn (· < w'.heap.size) w' t tv) => CM.out g hg t ht w' tv _ (next0 D7.out k) h (S7.out w' k) GN.out)
        clear CM
        obtain ⟨b3, hb3⟩ : ∃ b, validT true 4 g = b := ⟨_, rfl⟩
        rw [hb3] at CG
        have HB3 := Lib.hid hb3
        clear hb3
        generalize hga : g.args.length = ga at *
        generalize hgm : g.nm = gm at *
        have HGA := Lib.hid hga
        have HGM := Lib.hid hgm
        clear hga hgm
        go_upto_region 4 with fail
        rw [← hW7]
        clear hW7
        go_wp2_with fail
        refine (CG.out _ (Below.refl _ _)).mono ?_
        rintro e w8 ⟨rfl, g8⟩
        have K8 := Lib.hid g8.1
        clear g8 y1 y2 z1 z2 CG
        obtain ⟨⟨y1, y2, _⟩, z1, z2, _⟩ := HH7.out _ K8.out
        cases b3
        · clear CM2 CT CB
          go_wp2_with fail
          refine (AW'.out _ (next0 D7.out K8.out)).mono ?_
          rintro e w9 ⟨rfl, k9⟩
          have D9 := Lib.hid (next0 (next0 D7.out K8.out) k9)
          go_wp2_with fail
          go_ret
          exact ⟨rfl, D9.out⟩
        · obtain ⟨m1, t, m2, m3, m4, m5, m6⟩ := IN2.out HB3.out
          have M1 := Lib.hid m1
          have M2 := Lib.hid m2
          have M3 := Lib.hid m3
          have HVt := Lib.hid (fun b (hb : b ∈ t) => HV2.out b (m6 b hb))
          clear m1 m2 m3 m4 m5 m6 IN2
          go_wp2_with fail
          refine (CM2.out HB3.out [] (fun y hy => by cases hy) _ _ K8.out (SIn.nil _ _)).mono ?_
          rintro e w9 ⟨v9, f9, rfl, h1, h2, k9⟩
          have K9 := Lib.hid (next0 K8.out k9)
          have MM := Lib.hid (And.intro h1 h2)
          clear h1 h2 k9 y1 y2 z1 z2
          obtain ⟨⟨y1, y2, _⟩, z1, z2, _⟩ := HH7.out _ K9.out
          cases f9
          · have := (MM.out.2 rfl).1
            rw [M2.out] at this
            cases this
          · obtain ⟨t9, ht9, hI9⟩ := MM.out.1 rfl
            rw [M2.out] at ht9
            cases ht9
            have I9 := Lib.hid hI9
            clear hI9 MM
            go_wp2_with fail
            refine (CM2.out HB3.out s (fun y hy => by have := size_of (SM2.out.2 y hy); omega) _ _ K9.out (SS.out _ (next0 D7.out K9.out))).mono ?_
            rintro e wa ⟨va, fa, rfl, h1, h2, ka⟩
            have Ka := Lib.hid (next0 K9.out ka)
            have MM := Lib.hid (And.intro h1 h2)
            have Ia := Lib.hid ((I9.out.deep ka (Nat.le_refl _)).wide (ok' := (· < wa.heap.size)) fun b hb => Nat.lt_of_lt_of_le hb ka.size)
            clear h1 h2 ka y1 y2 z1 z2 I9 CM2
            cases fa
            · have := (MM.out.2 rfl).1
              rw [M1.out] at this
              cases this
            · obtain ⟨t8, ht8, hI8⟩ := MM.out.1 rfl
              rw [M1.out] at ht8
              cases ht8
              have J8 := Lib.hid hI8
              clear hI8 MM
              have Da := Lib.hid (next0 D7.out Ka.out)
              have CA8 := Lib.hid (fun w' (k : Below wa.heap.size wa w') => CB.out t HVt.out w' v9 (next0 Da.out k) ((Ia.out.deep k (Nat.le_refl _)).wide fun b hb => Nat.lt_of_lt_of_le hb k.size))
              rw [M3.out, HGM.out, HGA.out] at CA8
              have CT8 := Lib.hid (fun q' w' (k : Below wa.heap.size wa w') h => CT.out q' w' (next0 Ka.out k) h)
              have CS8 := Lib.hid (fun w' (k : Below wa.heap.size wa w') => same_any s s true (by simp) w'.heap.size w' va sv (Nat.le_refl _) ((J8.out.deep k (Nat.le_refl _)).wide fun b hb => Nat.lt_of_lt_of_le hb k.size) (SS.out _ (next0 Da.out k)))
              have AW8 := Lib.hid (fun w' (k : Below wa.heap.size wa w') => AW'.out w' (next0 Da.out k))
              have HH8 := Lib.hid (fun w' (k : Below wa.heap.size wa w') => HH7.out w' (next0 Ka.out k))
              clear CB CT AW' HH7 SS
              obtain ⟨⟨y1, y2, _⟩, z1, z2, _⟩ := HH8.out _ (Below.refl _ _)
              go_wp2_with fail
              go_region_law (first
                | (go_simp; go_at_call 21; (with_reducible refine (CA8.out _ (by first | exact Below.refl _ _ | exact (Below.refl _ _).drew | exact below_drewN (Below.refl _ _) _)).mono ?_); rintro e wb ⟨qb, db, rfl, hSb, hnb, kb⟩; have DA : Hid (Below wa.heap.size wa wb) := Lib.hid (by first | exact kb | exact next0 (Below.refl _ _).drew kb | exact next0 (below_drewN (Below.refl _ _) _) kb); have SB := Lib.hid (fun w' (k : Below wb.heap.size wb w') => ((hSb.weaken (ok' := (· < wb.heap.size)) fun b hb => by have h1 := kb.size; have h2 := hb; first | omega | (rcases h2 with h2 | h2; exact Nat.lt_of_lt_of_le h2 h1; exact h2.2)).deep k (Nat.le_refl _)).weaken (ok' := (· < w'.heap.size)) fun b hb => Nat.lt_of_lt_of_le hb k.size); clear hSb hnb kb; obtain ⟨⟨a1, a2, _⟩, a3, a4, _⟩ := HH8.out _ DA.out)
                | (go_simp; go_at_call 18; (with_reducible refine (CT8.out _ _ (next0 DA.out (by first | exact Below.refl _ _ | exact (Below.refl _ _).drew | exact below_drewN (Below.refl _ _) _)) (SB.out _ (by first | exact Below.refl _ _ | exact (Below.refl _ _).drew | exact below_drewN (Below.refl _ _) _))).mono ?_); rintro e wc ⟨rfl, gc⟩; have DB : Hid (Below wa.heap.size wa wc) := Lib.hid (by first | exact next0 DA.out gc.1 | exact next0 DA.out.drew gc.1 | exact next0 (below_drewN DA.out _) gc.1); clear gc)
                | (go_simp; go_at_call 28; (with_reducible refine (CS8.out _ (next0 DB.out (by first | exact Below.refl _ _ | exact (Below.refl _ _).drew | exact below_drewN (Below.refl _ _) _))).mono ?_); rintro e wd ⟨rfl, gd⟩; have DC : Hid (Below wa.heap.size wa wd) := Lib.hid (by first | exact next0 DB.out gd.1 | exact next0 DB.out.drew gd.1 | exact next0 (below_drewN DB.out _) gd.1); clear gd)
                | (go_simp; go_at_call 13; (with_reducible refine (AW8.out _ (next0 DC.out (by first | exact Below.refl _ _ | exact (Below.refl _ _).drew | exact below_drewN (Below.refl _ _) _))).mono ?_); rintro e we ⟨rfl, ke⟩; have DD : Hid (Below wa.heap.size wa we) := Lib.hid (by first | exact next0 DC.out ke | exact next0 DC.out.drew ke | exact next0 (below_drewN DC.out _) ke); clear ke))
              all_goals
                go_wp2_with fail
                go_ret
                exact ⟨rfl, next0 Da.out DD.out⟩
end UniZ
end Go.Proofs.YtaenalpckloikaaGreatDoor
