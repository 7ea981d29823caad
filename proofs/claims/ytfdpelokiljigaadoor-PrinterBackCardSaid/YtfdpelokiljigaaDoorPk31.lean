/- Texts laid together: PriU; PriBk; PriV. Their own heads stand before each. -/
import Derived.Test.YtfdpelokiljigaaDoorPk30
import Derived.Test.YtfdpelokiljigaaDoorPk20
import Derived.Test.YtfdpelokiljigaaDoorPk8
import Derived.Test.YtfdpelokiljigaaDoorPk17
import Derived.Test.YtfdpelokiljigaaDoorPk21
import Derived.Deep.RegionWith
import Derived.BigQuiet
import Derived.Deep.RegionHeld3
import Derived.Deep.DeepCutAuto
/- The walk of PrinterBack. Conditions: the reserved words and the three signs lie as laid. -/
namespace Go.Proofs.YtfdpelokiljigaaDoor
open Go Go.RowKit
namespace PriU
open Kit LexM TermM TermI TermU LexP ParM ParK ParV ParP ParQ PriM PriC PriD PriK PriN PriR PriS PriAx PriT
theorem rin_gr {w w' : World} {l : List Rl} {v : Value} {B : Nat} (h : RIn (· < B) w l v) (g : Gr w w') (hB : B ≤ w.heap.size) : RIn (· < B) w' l v := h.keep fun _ _ hb => g.cell (Nat.lt_of_lt_of_le hb hB)
set_option maxRecDepth 100000 in
set_option maxHeartbeats 3200000 in
theorem back (l : List Rl) (w : World) (sv : Value) (hw : LexE.Wd w) (hw2 : TermT.Wd w) (h : RIn (· < w.heap.size) w l sv) : Calls Tryd.prog 7 #[sv] w fun e w' => e = .returned (.bool true) ∧ Below w.heap.size w w' := by
  have HA := Lib.hid awake_any
  have HW := Lib.hid hw
  have HW2 := Lib.hid hw2
  clear hw hw2
  obtain ⟨p, c, rfl, hc, hm, hR⟩ := RIn.row h
  by_cases hs : 200 < l.length
  · have hs1 : (200 : Int) < (l.length : Int) := by omega
    clear h hR
    generalize l.length = n at *
    go_enter Tryd.func7, Tryd.ntmps7
    go_wp2_with fail
    refine (HA.out w HW.out HW2.out).mono ?_
    rintro e w8 ⟨rfl, g8⟩
    have B8 := Lib.hid g8
    clear g8
    go_wp2_with fail
    go_ret
    exact ⟨rfl, B8.out⟩
  · have hs1 : ¬ (200 : Int) < (l.length : Int) := by omega
    have HR := Lib.hid hR
    have HI := Lib.hid h
    have FW := Lib.hid (fun (t : Rl) (w' : World) (sa sl : Value) (hb : w.heap.size ≤ w'.heap.size) (ha : SlIn (· < w.heap.size) w' t.1.args sa) (hl : LIn (· < w.heap.size) w' t.2 sl) => few_any t w.heap.size w' sa sl hb ha hl)
    have RU := Lib.hid (fun (w' : World) (h2 : TermT.Wd w') (g : Gr w w') => rules_any l w.heap.size w' _ h2 g.size (rin_gr h g (Nat.le_refl _)))
    have NO := Lib.hid (fun h => rules_no (l := l) h)
    have OK := Lib.hid (fun h => rules_ok (l := l) h)
    have AG := Lib.hid (fun h1 h2 h3 => again (l := l) h1 h2 h3)
    have RR := Lib.hid (fun (w1 : World) v v' (h : RIn (· < w1.heap.size) w1 l v) (h' : RIn (· < w1.heap.size) w1 l v') => rules_of l l true (by simp) w1.heap.size w1 v v' (Nat.le_refl _) h h')
    have PA := Lib.hid (fun (s : ByteArray) w1 h1 h2 h3 => parse_good s l w1 h1 h2 h3)
    have hn1 : l.length ≤ 200 := by omega
    clear h hR hc hm hs
    unfold PG at PA
    obtain ⟨D, hD⟩ : ∃ D, D = descX l := ⟨_, rfl⟩
    obtain ⟨RF, hRF⟩ : ∃ RF, RF = rulesF l := ⟨_, rfl⟩
    rw [← hRF] at RU NO OK
    rw [← hD] at OK AG
    clear hD hRF
    generalize hln : l.length = n at *
    have HN := Lib.hid hln
    clear hln
    go_enter Tryd.func7, Tryd.ntmps7
    go_wp2_with fail
    go_loopw [3] (fun i wL => ∃ k : Nat, k ≤ n ∧ i = .int .i64 k ∧ Hid (Gr w wL)) (fun i _ => n - (intOf i).toNat)
    case atStart => exact ⟨0, by omega, rfl, Lib.hid (Gr.refl _)⟩
    case round =>
      obtain ⟨k, hk, rfl, hG⟩ := hrel
      by_cases hlt : k < n
      · obtain ⟨t, b, o, q, d, u, f, ht, rfl, hb, c1, c2, c3, hs, hu, hts⟩ := (RowR.gr HR.out hG.out (Nat.le_refl _)) k (by rw [HN.out]; exact hlt)
        have K1 := Lib.hid (FW.out t wr _ _ hG.out.size hs hu)
        clear ht hs hu hts
        generalize t.1.nm = tn at *
        generalize t.1.args.length = ta at *
        generalize t.2.length = tb at *
        go_wp2_with fail
        refine K1.out.mono ?_
        rintro e w2 ⟨b2, rfl, g2⟩
        have G2 := Lib.hid (hG.out.trans g2)
        clear g2 K1 c1 c2 c3
        cases b2
        · go_wp2_with fail
          refine (HA.out w2 (HW.out.below G2.out.1 HW.out.1) (HW2.out.below G2.out.1 HW2.out.1)).mono ?_
          rintro e w3 ⟨rfl, k3⟩
          have B3 := Lib.hid (next0 G2.out.1 k3)
          clear k3
          go_wp2_with fail
          go_ret
          exact ⟨rfl, B3.out⟩
        · go_wp2_with fail
          go_roundw
          case rel => exact ⟨k + 1, by omega, by go_num, G2⟩
          case measure => simp [intOf] <;> omega
      · obtain rfl : k = n := by omega
        have C1 := Lib.hid (RU.out wr (HW2.out.below hG.out.1 HW2.out.1) hG.out)
        clear RU
        by_cases hE : RF.2 = 0
        · obtain ⟨r1, r2, r3, r4⟩ := OK.out hE
          obtain ⟨a1, a2, a3⟩ := AG.out r2 r3 r4
          rw [r1, hE] at C1
          have C2 := Lib.hid (fun w1 h1 => PA.out (bs D) w1 h1 (by omega) a1)
          have C3 := Lib.hid (fun w1 h1 h2 => by have := fmt_any (bs D) w1 h1 h2 (by omega); rw [a2] at this; exact this)
          dsimp only at C3
          clear PA OK NO AG r1 r2 r3 r4 a1 a2 a3 hE
          generalize bs D = S at *
          go_wp2_with fail
          refine C1.out.mono ?_
          rintro e w1 ⟨rfl, k1⟩
          have B1 := Lib.hid (next0 hG.out.1 k1)
          clear k1 C1
          go_wp2_with fail
          refine (C2.out w1 (HW.out.below B1.out HW.out.1)).mono ?_
          rintro e w2 ⟨p2, c2, rfl, hR2, k2⟩
          have B2 := Lib.hid (next0 B1.out k2)
          have R2 := Lib.hid hR2
          clear k2 C2 B1 hR2
          go_wp2_with fail
          refine (C3.out w2 (HW.out.below B2.out HW.out.1) (HW2.out.below B2.out HW2.out.1)).mono ?_
          rintro e w3 ⟨rfl, k3⟩
          have B3 := Lib.hid (next0 B2.out k3)
          have R2' := (R2.out.keep (w' := w3) (fun b o hb => k3.cell (p := ⟨b, o, none⟩) hb)).wide (ok' := (· < w3.heap.size)) (fun b hb => Nat.lt_of_lt_of_le hb k3.size)
          have R0' := (HI.out.keep (w' := w3) (fun b o hb => B3.out.cell (p := ⟨b, o, none⟩) hb)).wide (ok' := (· < w3.heap.size)) (fun b hb => Nat.lt_of_lt_of_le hb B3.out.size)
          have C4 := Lib.hid (RR.out w3 _ _ R0' R2')
          clear k3 C3 B2 R2 R2' R0' RR
          go_wp2_with fail
          refine C4.out.mono ?_
          rintro e w4 ⟨rfl, g4⟩
          have B4 := Lib.hid (next0 B3.out g4.1)
          clear g4 B3 C4
          go_wp2_with fail
          refine (HA.out w4 (HW.out.below B4.out HW.out.1) (HW2.out.below B4.out HW2.out.1)).mono ?_
          rintro e w5 ⟨rfl, k5⟩
          have B5 := Lib.hid (next0 B4.out k5)
          clear k5
          go_wp2_with fail
          go_ret
          exact ⟨rfl, B5.out⟩
        · have e1 := NO.out hE
          have hE1 : (RF.2 != 0) = true := by rw [bne_iff_ne]; exact hE
          rw [e1, bs_nil] at C1
          clear PA OK NO AG hE e1 RR
          generalize RF.2 = er at *
          go_wp2_with fail
          refine C1.out.mono ?_
          rintro e w1 ⟨rfl, k1⟩
          have B1 := Lib.hid (next0 hG.out.1 k1)
          clear k1 C1
          go_wp2_with fail
          refine (HA.out w1 (HW.out.below B1.out HW.out.1) (HW2.out.below B1.out HW2.out.1)).mono ?_
          rintro e w5 ⟨rfl, k5⟩
          have B5 := Lib.hid (next0 B1.out k5)
          clear k5
          go_wp2_with fail
          go_ret
          exact ⟨rfl, B5.out⟩
end PriU
end Go.Proofs.YtfdpelokiljigaaDoor
/- Rules, lists of rules and lists of terms that come in are opened; what bounds their texts: the bulk of what they read as. No conditions. -/
namespace Go.Proofs.YtfdpelokiljigaaDoor
open Go Go.RowKit Go.ChangeShapes Go.Deep
namespace PriBk
open LexM TermM TermI Kit TermT TermTx ParM ParK PriM PriK
theorem tail_bulk {H : Type} : ∀ (l : List Tm) (es : List (DataW H)), l.length = es.length → (∀ (i : Nat) t d, l[i]? = some t → es[i]? = some d → (textT t).length + 1 ≤ Rows.uptoBulk d) → (tailT l).length ≤ Rows.uptoBulkAll es
  | [], [], _, _ => by simp [tailT]
  | [], _ :: _, h, _ => by simp at h
  | _ :: _, [], h, _ => by simp at h
  | t :: l, d :: es, h, hall => by
    have h0 := hall 0 t d rfl rfl
    have h1 := tail_bulk l es (by simpa using h) (fun i t d ht hd => hall (i + 1) t d (by simpa using ht) (by simpa using hd))
    simp only [tailT, Rows.uptoBulkAll, List.length_append, List.length_cons]
    omega
theorem text_bulk {H : Type} (s : ByteArray) (l : List Tm) (y : DataW H) (h : (tailT l).length ≤ Rows.uptoBulk y) : (textT (.mk s l)).length + 1 ≤ Rows.uptoBulk (DataW.agg [.lit (.string s.data.toList), y]) := by
  have h3 : s.data.toList.length = s.size := by simp
  cases l with
  | nil =>
    have e : (textT (.mk s [])).length = s.size := by rw [text_mk]; simp
    rw [e]
    simp only [Rows.uptoBulk, Rows.uptoBulkAll, h3]
    omega
  | cons a r =>
    rw [text_args (by simp)]
    simp only [Rows.uptoBulk, Rows.uptoBulkAll, h3]
    omega
theorem all_app {H : Type} (a b : List (DataW H)) : Rows.uptoBulkAll a ≤ Rows.uptoBulk (.slice a b) := by
  simp only [Rows.uptoBulk]
  omega
/-- A slice value that reads as a slice of terms, with its bulk. -/
theorem slice_in2 {H : Type} {enc : TypeId × Value → H} {W : World} {base : Nat} {sp : Nat → Bool} {held : Bool} : ∀ (n : Nat) (cs : List Value) (x : DataW H × List MemPlace),
    DataW.trod enc Tryd.prog W base sp held n 22 cs = some x → ∃ (l : List Tm) (v : Value), cs = [v] ∧ SlIn (· < W.heap.size) W l v ∧ (tailT l).length ≤ Rows.uptoBulk x.1 := by
  intro n
  induction n using Nat.strongRecOn with
  | ind n ih =>
    intro cs x h
    rcases DataW.trod_slice Tryd.underlying22 h with ⟨rfl, rfl⟩ | ⟨a, len, cap, elems, rest, m, hn, rfl, rfl, _, hle, hm, hlen, hel, _⟩
    · exact ⟨[], _, rfl, SlIn.none _ _, by simp [tailT]⟩
    · have each : ∀ i, i < len → ∃ tv : Tm × Value, W.cell? (a.add (i * 2)) = some (.string tv.1.nm) ∧ W.cell? (a.add (i * 2 + 1)) = some tv.2 ∧ tv.1.nm.size ≤ maxLen ∧ SlIn (· < W.heap.size) W tv.1.args tv.2 ∧ ∀ z, (elems.map (·.1))[i]? = some z → (textT tv.1).length + 1 ≤ Rows.uptoBulk z := by
        intro i hi
        have he := hel i hi
        rw [List.getElem?_eq_getElem (by omega)] at he
        obtain ⟨cs', h1, h2⟩ := Option.bind_eq_some_iff.1 he
        rw [cellsT] at h1
        obtain ⟨_, hl2, hcell⟩ := World.cells?_some h1
        obtain ⟨s, v, k, y, rfl, hk, hs, hv, hx1⟩ := struct_in h2
        obtain ⟨l, v', e, hin, hbk⟩ := ih k (by omega) _ _ hv
        injection e with e _
        subst e
        have e0 := hcell 0 (by omega)
        have e1 := hcell 1 (by omega)
        rw [add_add] at e0 e1
        refine ⟨(.mk s l, v), by simpa [Tm.nm] using e0, by simpa using e1, hs, hin, fun z hz => ?_⟩
        rw [List.getElem?_map, List.getElem?_eq_getElem (by omega)] at hz
        have hz' : (elems[i]'(by omega)).1 = z := by simpa using hz
        rw [← hz', hx1]
        exact text_bulk s l y.1 hbk
      obtain ⟨tvs, htl, hall⟩ := gather each
      obtain ⟨b, off, spot⟩ := a
      have hsp : tvs ≠ [] → spot = none ∧ b < W.heap.size := by
        intro hne
        obtain ⟨tv, hg⟩ : ∃ tv, tvs[0]? = some tv := by cases tvs with
          | nil => exact absurd rfl hne
          | cons a r => exact ⟨a, rfl⟩
        have h0 := (hall 0 tv hg).1
        have h2 : spot = none := by simpa [Addr.add] using World.cell?_spot h0
        subst h2
        exact ⟨rfl, by simpa [Addr.add] using block_lt_of_cell h0⟩
      have hml : (tvs.map (·.1)).length = len := by simp [htl]
      have key : ∀ (i : Nat) (t : Tm), (tvs.map (·.1))[i]? = some t → ∃ tv : Tm × Value, tvs[i]? = some tv ∧ tv.1 = t := by
        intro i t ht
        rw [List.getElem?_map] at ht
        obtain ⟨tv, h1, h2⟩ := Option.map_eq_some_iff.1 ht
        exact ⟨tv, h1, h2⟩
      refine ⟨tvs.map (·.1), .slice (some ⟨b, off, spot⟩) len cap, rfl, ?_, ?_⟩
      · rw [← hml]
        refine .mk _ cap _ (fun i => (tvs.getD i (default, undef)).2) b off (fun hne => ?_) (fun h => by cases h) (by omega) hm (fun i t ht => ?_) (fun i t ht => ?_)
        · obtain ⟨rfl, h2⟩ := hsp (by intro e; subst e; exact hne rfl)
          exact ⟨rfl, h2⟩
        · obtain ⟨tv, hg, rfl⟩ := key i t ht
          obtain ⟨h1, h2, h3, _⟩ := hall i tv hg
          obtain ⟨rfl, _⟩ := hsp (by intro e; subst e; simp at hg)
          rw [addr_add] at h1 h2
          exact ⟨h1, by simpa [List.getD, hg, Nat.add_assoc] using h2, h3⟩
        · obtain ⟨tv, hg, rfl⟩ := key i t ht
          have := (hall i tv hg).2.2.2.1
          simpa [List.getD, hg] using this
      · refine Nat.le_trans (tail_bulk (tvs.map (·.1)) (elems.map (·.1)) (by simp [htl, hlen]) (fun i t d ht hd => ?_)) (all_app _ _)
        obtain ⟨tv, hg, rfl⟩ := key i t ht
        exact (hall i tv hg).2.2.2.2 d hd
set_option maxRecDepth 100000 in
theorem open_term2 {H : Type} {enc : TypeId × Value → H} {W : World} {b0 : Nat} {base : Nat} {sp : Nat → Bool} {held : Bool} {v : Value} {d : DataW H} {p : List MemPlace}
    (hv : Value.okWide Tryd.prog W .any b0 24 v) (h : DataW.Trod enc Tryd.prog W base sp held 24 v d p) : ∃ (t : Tm) (sv : Value), v = .agg #[.string t.nm, sv] ∧ t.nm.size ≤ maxLen ∧ SlIn (· < W.heap.size) W t.args sv ∧ (textT t).length + 1 ≤ Rows.uptoBulk d := by
  obtain ⟨cs, rfl, hsz⟩ := WideShapes.okWide_struct under.choose_spec.choose_spec.1 hv
  obtain ⟨fuel, hf⟩ := h
  obtain ⟨s, v, k, y, e, _, hs, hv, hx⟩ := struct_in hf
  obtain ⟨l, v', e', hin, hbk⟩ := slice_in2 _ _ _ hv
  injection e' with e' _
  subst e'
  simp [Value.cells] at e
  obtain rfl : cs = #[.string s, v] := Array.ext' e
  refine ⟨.mk s l, v, rfl, hs, hin, ?_⟩
  rw [show d = _ from hx]
  exact text_bulk s l y.1 hbk

set_option maxRecDepth 100000 in
theorem open_terms2 {H : Type} {enc : TypeId × Value → H} {W : World} {b0 : Nat} {base : Nat} {sp : Nat → Bool} {held : Bool} {v : Value} {d : DataW H} {p : List MemPlace}
    (hv : Value.okWide Tryd.prog W .any b0 22 v) (h : DataW.Trod enc Tryd.prog W base sp held 22 v d p) : ∃ l, SlIn (· < W.heap.size) W l v ∧ (tailT l).length ≤ Rows.uptoBulk d := by
  obtain ⟨a0, m0, c0, rfl⟩ := Go.WideShapes.okWide_slice Tryd.underlying22 hv
  obtain ⟨fuel, hf⟩ := h
  obtain ⟨l, v, e, hin, hb⟩ := slice_in2 _ _ _ hf
  simp [Value.cells] at e
  subst e
  exact ⟨l, hin, hb⟩
theorem cellsB : Tryd.prog.cellsOf 4 = 1 := by kernel_rfl
theorem cellsLit : Tryd.prog.cellsOf 32 = 3 := by kernel_rfl
theorem cellsLits : Tryd.prog.cellsOf 25 = 1 := by kernel_rfl
theorem cellsRule : Tryd.prog.cellsOf 27 = 3 := by kernel_rfl
theorem underLit : ∃ f0 f1 : Field, Tryd.prog.underlying 32 = some (.struct #[f0, f1]) ∧ f0.offset = 0 ∧ f1.offset = 1 ∧ f0.type = 4 ∧ f1.type = 24 := ⟨_, _, Tryd.underlying32, rfl, rfl, rfl, rfl⟩
theorem underRule : ∃ f0 f1 : Field, Tryd.prog.underlying 27 = some (.struct #[f0, f1]) ∧ f0.offset = 0 ∧ f1.offset = 2 ∧ f0.type = 24 ∧ f1.type = 25 := ⟨_, _, Tryd.underlying27, rfl, rfl, rfl, rfl⟩
theorem three_of (l : List Value) (h : l.length = 3) : ∃ a b c, l = [a, b, c] := by
  match l, h with
  | [a, b, c], _ => exact ⟨a, b, c, rfl⟩
/-- Three cells that read as a literal. -/
theorem lit_in {H : Type} {enc : TypeId × Value → H} {W : World} {base : Nat} {sp : Nat → Bool} {held : Bool} {n : Nat} {cs : List Value} {x : DataW H × List MemPlace}
    (h : DataW.trod enc Tryd.prog W base sp held n 32 cs = some x) :
    ∃ (y : Lt) (v : Value), cs = KL.cells (y, v) ∧ KL.inn (· < W.heap.size) W (y, v) ∧ (textT y.2).length + 3 ≤ Rows.uptoBulk x.1 := by
  obtain ⟨f0, f1, hu, o0, o1, y0, y1⟩ := underLit
  obtain ⟨xs, k, hk, hxy, hcl, hxl, hf⟩ := DataW.trod_struct hu h
  rw [cellsLit] at hcl
  obtain ⟨v0, v1, v2, rfl⟩ := three_of cs hcl
  match xs, hxl with
  | [x0, x1], _ =>
    have g0 := hf 0 f0 rfl
    have g1 := hf 1 f1 rfl
    simp [o0, o1, y0, y1, cellsB, cellsT] at g0 g1
    obtain ⟨b, q1, q2⟩ := DataW.trod_bool Tryd.underlying4 g0
    simp at q1
    subst q1
    obtain ⟨s, v, k2, y, e, _, hs, hv, hx1⟩ := struct_in g1
    injection e with e1 e2
    injection e2 with e2 _
    subst e1 e2
    obtain ⟨l, v', e', hin, hbk⟩ := slice_in2 _ _ _ hv
    injection e' with e' _
    subst e'
    refine ⟨(b, .mk s l), _, rfl, ⟨hin, hs⟩, ?_⟩
    rw [hxy]
    have := text_bulk s l y.1 hbk
    have e5 : x1.1 = _ := hx1
    simp only [List.map_cons, List.map_nil, Rows.uptoBulk, Rows.uptoBulkAll, q2]
    rw [e5]
    omega
/-- A slice value that reads as a slice of literals. -/
theorem lits_in {H : Type} {enc : TypeId × Value → H} {W : World} {base : Nat} {sp : Nat → Bool} {held : Bool} {n : Nat} {cs : List Value} {x : DataW H × List MemPlace}
    (h : DataW.trod enc Tryd.prog W base sp held n 25 cs = some x) : ∃ (l : List Lt) (v : Value), cs = [v] ∧ LIn (· < W.heap.size) W l v ∧ (l.map fun y => (textT y.2).length + 3).sum ≤ Rows.uptoBulk x.1 := by
  rcases DataW.trod_slice Tryd.underlying25 h with ⟨rfl, rfl⟩ | ⟨a, len, cap, elems, rest, m, hn, rfl, rfl, _, hle, hm, hlen, hel, _⟩
  · exact ⟨[], _, rfl, LIn.nil _ _, by simp⟩
  · have each : ∀ i, i < len → ∃ tv : Lt × Value, (∀ j u, (KL.cells tv)[j]? = some u → W.cell? (a.add (i * 3 + j)) = some u) ∧ KL.inn (· < W.heap.size) W tv ∧ ∀ z, (elems.map (·.1))[i]? = some z → (textT tv.1.2).length + 3 ≤ Rows.uptoBulk z := by
      intro i hi
      have he := hel i hi
      rw [List.getElem?_eq_getElem (by omega)] at he
      obtain ⟨cs', h1, h2⟩ := Option.bind_eq_some_iff.1 he
      rw [cellsLit] at h1
      obtain ⟨_, hl2, hcell⟩ := World.cells?_some h1
      obtain ⟨y, v, rfl, hin, hbk⟩ := lit_in h2
      refine ⟨(y, v), fun j u hu => ?_, hin, fun z hz => ?_⟩
      · have hj := (List.getElem?_eq_some_iff.1 hu).1
        have hj3 : j < 3 := by rw [KL.len] at hj; exact hj
        have e0 := hcell j (by omega)
        rw [add_add] at e0
        rw [e0]
        exact hu
      · rw [List.getElem?_map, List.getElem?_eq_getElem (by omega)] at hz
        have hz' : (elems[i]'(by omega)).1 = z := by simpa using hz
        rw [← hz']
        exact hbk
    obtain ⟨tvs, htl, hall⟩ := gather each
    obtain ⟨b, off, spot⟩ := a
    have hsp : tvs ≠ [] → spot = none ∧ b < W.heap.size := by
      intro hne
      obtain ⟨tv, hg⟩ : ∃ tv, tvs[0]? = some tv := by cases tvs with
        | nil => exact absurd rfl hne
        | cons a r => exact ⟨a, rfl⟩
      have h0 := (hall 0 tv hg).1 0 _ rfl
      have h2 : spot = none := by simpa [Addr.add] using World.cell?_spot h0
      subst h2
      exact ⟨rfl, by simpa [Addr.add] using block_lt_of_cell h0⟩
    refine ⟨tvs.map (·.1), .slice (some ⟨b, off, spot⟩) len cap, rfl, ⟨tvs, rfl, _, cap, by rw [htl], by omega, hm, fun x hx => ?_, fun hl => ?_⟩, ?_⟩
    · obtain ⟨i, hi⟩ := List.mem_iff_getElem?.1 hx
      exact (hall i x hi).2.1
    · obtain ⟨rfl, hb⟩ := hsp (by intro e; subst e; simp at hl)
      refine ⟨b, off, rfl, hb, fun i x hx j u hu => ?_⟩
      have := (hall i x hx).1 j u hu
      rw [addr_add, ← Nat.add_assoc] at this
      exact this
    · have key : ∀ (L : List (Lt × Value)) (es : List (DataW H)), L.length = es.length → (∀ (i : Nat) t d, L[i]? = some t → es[i]? = some d → (textT t.1.2).length + 3 ≤ Rows.uptoBulk d) → (L.map fun y => (textT y.1.2).length + 3).sum ≤ Rows.uptoBulkAll es := by
        intro L
        induction L with
        | nil => intro es _ _; simp
        | cons t L ih =>
          intro es hl hh
          cases es with
          | nil => simp at hl
          | cons d es =>
            have h0 := hh 0 t d rfl rfl
            have h1 := ih es (by simpa using hl) (fun i t d ht hd => hh (i + 1) t d (by simpa using ht) (by simpa using hd))
            simp only [List.map_cons, List.sum_cons, Rows.uptoBulkAll]
            omega
      refine Nat.le_trans ?_ (all_app _ _)
      have := key tvs (elems.map (·.1)) (by simp [htl, hlen]) (fun i t d ht hd => (hall i t ht).2.2 d hd)
      rw [List.map_map]
      exact this
/-- Three cells that read as a rule. -/
theorem rule_in {H : Type} {enc : TypeId × Value → H} {W : World} {base : Nat} {sp : Nat → Bool} {held : Bool} {n : Nat} {cs : List Value} {x : DataW H × List MemPlace}
    (h : DataW.trod enc Tryd.prog W base sp held n 27 cs = some x) :
    ∃ (y : Rl) (v v' : Value), cs = KR.cells (y, v, v') ∧ KR.inn (· < W.heap.size) W (y, v, v') ∧ (textT y.1).length + (y.2.map fun y => (textT y.2).length + 3).sum + 1 ≤ Rows.uptoBulk x.1 := by
  obtain ⟨f0, f1, hu, o0, o1, y0, y1⟩ := underRule
  obtain ⟨xs, k, hk, hxy, hcl, hxl, hf⟩ := DataW.trod_struct hu h
  rw [cellsRule] at hcl
  obtain ⟨v0, v1, v2, rfl⟩ := three_of cs hcl
  match xs, hxl with
  | [x0, x1], _ =>
    have g0 := hf 0 f0 rfl
    have g1 := hf 1 f1 rfl
    simp [o0, o1, y0, y1, cellsLits, cellsT] at g0 g1
    obtain ⟨s, v, k2, y, e, _, hs, hv, hx1⟩ := struct_in g0
    injection e with e1 e2
    injection e2 with e2 _
    subst e1 e2
    obtain ⟨l, v', e', hin, hbk⟩ := slice_in2 _ _ _ hv
    injection e' with e' _
    subst e'
    obtain ⟨m, v', e', hin2, hbk2⟩ := lits_in g1
    injection e' with e' _
    subst e'
    refine ⟨(.mk s l, m), _, _, rfl, ⟨hin, hs, hin2⟩, ?_⟩
    rw [hxy]
    have := text_bulk s l y.1 hbk
    have e5 : x0.1 = _ := hx1
    simp only [List.map_cons, List.map_nil, Rows.uptoBulk, Rows.uptoBulkAll]
    rw [e5]
    omega
set_option maxRecDepth 100000 in
theorem open_rule2 {H : Type} {enc : TypeId × Value → H} {W : World} {b0 : Nat} {base : Nat} {sp : Nat → Bool} {held : Bool} {v : Value} {d : DataW H} {p : List MemPlace}
    (hv : Value.okWide Tryd.prog W .any b0 27 v) (h : DataW.Trod enc Tryd.prog W base sp held 27 v d p) : ∃ (r : Rl) (sa sl : Value), v = .agg #[.string r.1.nm, sa, sl] ∧ r.1.nm.size ≤ maxLen ∧ SlIn (· < W.heap.size) W r.1.args sa ∧ LIn (· < W.heap.size) W r.2 sl ∧ (textT r.1).length + (r.2.map fun y => (textT y.2).length + 3).sum + 1 ≤ Rows.uptoBulk d := by
  obtain ⟨cs, rfl, hsz⟩ := WideShapes.okWide_struct underRule.choose_spec.choose_spec.1 hv
  obtain ⟨fuel, hf⟩ := h
  obtain ⟨y, v, v', e, hin, hbk⟩ := rule_in hf
  have e : cs.toList = [.string y.1.nm, v, v'] := by simpa [Value.cells, KR] using e
  obtain rfl : cs = #[.string y.1.nm, v, v'] := Array.ext' e
  exact ⟨y, v, v', rfl, hin.2.1, hin.1, hin.2.2, hbk⟩
/-- A slice value that reads as a slice of rules. -/
theorem rules_in {H : Type} {enc : TypeId × Value → H} {W : World} {base : Nat} {sp : Nat → Bool} {held : Bool} {n : Nat} {cs : List Value} {x : DataW H × List MemPlace}
    (h : DataW.trod enc Tryd.prog W base sp held n 37 cs = some x) : ∃ (l : List Rl) (v : Value), cs = [v] ∧ RIn (· < W.heap.size) W l v := by
  rcases DataW.trod_slice Tryd.underlying37 h with ⟨rfl, rfl⟩ | ⟨a, len, cap, elems, rest, m, hn, rfl, rfl, _, hle, hm, hlen, hel, _⟩
  · exact ⟨[], _, rfl, [], rfl, RowG.nil _ _⟩
  · have each : ∀ i, i < len → ∃ tv : Rl × Value × Value, (∀ j u, (KR.cells tv)[j]? = some u → W.cell? (a.add (i * 3 + j)) = some u) ∧ KR.inn (· < W.heap.size) W tv := by
      intro i hi
      have he := hel i hi
      rw [List.getElem?_eq_getElem (by omega)] at he
      obtain ⟨cs', h1, h2⟩ := Option.bind_eq_some_iff.1 he
      rw [cellsRule] at h1
      obtain ⟨_, hl2, hcell⟩ := World.cells?_some h1
      obtain ⟨y, v, v', rfl, hin, hbk⟩ := rule_in h2
      refine ⟨(y, v, v'), fun j u hu => ?_, hin⟩
      have hj := (List.getElem?_eq_some_iff.1 hu).1
      have hj3 : j < 3 := by rw [KR.len] at hj; exact hj
      have e0 := hcell j (by omega)
      rw [add_add] at e0
      rw [e0]
      exact hu
    obtain ⟨tvs, htl, hall⟩ := gather each
    obtain ⟨b, off, spot⟩ := a
    have hsp : tvs ≠ [] → spot = none ∧ b < W.heap.size := by
      intro hne
      obtain ⟨tv, hg⟩ : ∃ tv, tvs[0]? = some tv := by cases tvs with
        | nil => exact absurd rfl hne
        | cons a r => exact ⟨a, rfl⟩
      have h0 := (hall 0 tv hg).1 0 _ rfl
      have h2 : spot = none := by simpa [Addr.add] using World.cell?_spot h0
      subst h2
      exact ⟨rfl, by simpa [Addr.add] using block_lt_of_cell h0⟩
    refine ⟨tvs.map (·.1), .slice (some ⟨b, off, spot⟩) len cap, rfl, tvs, rfl, _, cap, by rw [htl], by omega, hm, fun x hx => ?_, fun hl => ?_⟩
    · obtain ⟨i, hi⟩ := List.mem_iff_getElem?.1 hx
      exact (hall i x hi).2
    · obtain ⟨rfl, hb⟩ := hsp (by intro e; subst e; simp at hl)
      refine ⟨b, off, rfl, hb, fun i x hx j u hu => ?_⟩
      have := (hall i x hx).1 j u hu
      rw [addr_add, ← Nat.add_assoc] at this
      exact this
set_option maxRecDepth 100000 in
theorem open_rules {H : Type} {enc : TypeId × Value → H} {W : World} {b0 : Nat} {base : Nat} {sp : Nat → Bool} {held : Bool} {v : Value} {d : DataW H} {p : List MemPlace}
    (hv : Value.okWide Tryd.prog W .any b0 37 v) (h : DataW.Trod enc Tryd.prog W base sp held 37 v d p) : ∃ l, RIn (· < W.heap.size) W l v := by
  obtain ⟨a0, m0, c0, rfl⟩ := Go.WideShapes.okWide_slice Tryd.underlying37 hv
  obtain ⟨fuel, hf⟩ := h
  obtain ⟨l, v, e, hin⟩ := rules_in hf
  simp [Value.cells] at e
  subst e
  exact ⟨l, hin⟩
/-! ### Sizes from the bulk -/
theorem lit_sz (x : Lt) : (litX x).length ≤ (textT x.2).length + 4 := by
  unfold litX
  rw [List.length_append]
  split <;> simp <;> omega
theorem body_sz (l : List Lt) : (bodyX l).length ≤ 12 * (l.map fun y => (textT y.2).length + 3).sum := by
  have key : ∀ l : List Lt, Lib.lens (l.map litX) + 5 * l.length ≤ 12 * (l.map fun y => (textT y.2).length + 3).sum := by
    intro l
    induction l with
    | nil => simp [Lib.lens]
    | cons x l ih =>
      have := lit_sz x
      simp only [Lib.lens, List.map_cons, List.sum_cons, List.length_cons] at ih ⊢
      omega
  have := key l
  unfold bodyX
  cases l with
  | nil => simp [Lib.join_nil]
  | cons x l =>
    rw [List.map_cons, Lib.join_length]
    simp only [List.map_cons, List.length_cons, List.length_nil, List.length_map] at this ⊢
    omega
theorem sum_ge {l : List Lt} {x : Lt} (h : x ∈ l) : (textT x.2).length + 3 ≤ (l.map fun y => (textT y.2).length + 3).sum := by
  induction l with
  | nil => simp at h
  | cons a l ih =>
    rw [List.map_cons, List.sum_cons]
    rcases List.mem_cons.1 h with rfl | h
    · omega
    · have := ih h; omega
theorem len_sz (l : List Lt) : 3 * l.length ≤ (l.map fun y => (textT y.2).length + 3).sum := by
  induction l with
  | nil => simp
  | cons a l ih => rw [List.map_cons, List.sum_cons, List.length_cons]; omega
theorem sm_bulk {r : Rl} {N : Nat} (hN : N ≤ 1048576) (h : (textT r.1).length + (r.2.map fun y => (textT y.2).length + 3).sum + 1 ≤ N) : PriB.Sm r ∧ (ruleX r).length ≤ 20000000 ∧ r.2.length ≤ 1048576 := by
  have h1 := body_sz r.2
  have h2 := len_sz r.2
  refine ⟨⟨by omega, by omega, fun x hx => by have := sum_ge hx; omega, by omega⟩, ?_, by omega⟩
  unfold ruleX
  rw [List.length_append, List.length_append]
  split
  · simp; omega
  · rw [List.length_append]; simp only [List.length_cons, List.length_nil]; omega
theorem terms_sz (l : List Tm) : (termsX l).length ≤ 2 * (tailT l).length := by
  have key : ∀ l : List Tm, Lib.lens (l.map textT) + 2 * l.length ≤ 2 * (tailT l).length := by
    intro l
    induction l with
    | nil => simp [Lib.lens, tailT]
    | cons x l ih =>
      simp only [Lib.lens, List.map_cons, List.sum_cons, List.length_cons, tailT, List.length_append] at ih ⊢
      omega
  have := key l
  unfold termsX
  cases l with
  | nil => simp [Lib.join_nil]
  | cons x l =>
    rw [List.map_cons, Lib.join_length]
    simp only [List.map_cons, List.length_cons, List.length_nil, List.length_map] at this ⊢
    omega
theorem tail_ge {l : List Tm} {t : Tm} (h : t ∈ l) : (textT t).length ≤ (tailT l).length := by
  induction l with
  | nil => simp at h
  | cons a l ih =>
    simp only [tailT, List.length_cons, List.length_append]
    rcases List.mem_cons.1 h with rfl | h
    · omega
    · have := ih h; omega
theorem tail_len (l : List Tm) : l.length ≤ (tailT l).length := by
  induction l with
  | nil => simp
  | cons a l ih =>
    simp only [tailT, List.length_cons, List.length_append]
    omega
end PriBk
end Go.Proofs.YtfdpelokiljigaaDoor
/- The walk of PrinterChecks. Conditions: the reserved words and the three signs lie as laid. -/
namespace Go.Proofs.YtfdpelokiljigaaDoor
open Go Go.RowKit
namespace PriV
open Kit LexM TermM TermI TermU LexP ParM ParK ParV ParP ParQ PriM PriA PriB PriC PriD PriE PriF PriK PriL PriN PriR PriS PriAx PriT PriU
set_option maxRecDepth 100000 in
set_option maxHeartbeats 6400000 in
theorem checks (l : List Rl) (w : World) (sv : Value) (hw : LexE.Wd w) (hw2 : TermT.Wd w) (h : RIn (· < w.heap.size) w l sv) : Calls Tryd.prog 5 #[sv] w fun e w' => e = .returned (.bool true) ∧ Below w.heap.size w w' := by
  have HA := Lib.hid awake_any
  have HW := Lib.hid hw
  have HW2 := Lib.hid hw2
  clear hw hw2
  obtain ⟨p, c, rfl, hc, hm, hR⟩ := RIn.row h
  by_cases hs : 200 < l.length
  · have hs1 : (200 : Int) < (l.length : Int) := by omega
    clear h hR
    generalize l.length = n at *
    go_enter Tryd.func5, Tryd.ntmps5
    go_wp2_with fail
    refine (HA.out w HW.out HW2.out).mono ?_
    rintro e w8 ⟨rfl, g8⟩
    have B8 := Lib.hid g8
    clear g8
    go_wp2_with fail
    go_ret
    exact ⟨rfl, B8.out⟩
  · have hs1 : ¬ (200 : Int) < (l.length : Int) := by omega
    have HR := Lib.hid hR
    have HI := Lib.hid h
    have FW := Lib.hid (fun (t : Rl) (w' : World) (sa sl : Value) (hb : w.heap.size ≤ w'.heap.size) (ha : SlIn (· < w.heap.size) w' t.1.args sa) (hl : LIn (· < w.heap.size) w' t.2 sl) => few_any t w.heap.size w' sa sl hb ha hl)
    have RU := Lib.hid (fun (w' : World) (h2 : TermT.Wd w') (g : Gr w w') => rules_any l w.heap.size w' _ h2 g.size (rin_gr h g (Nat.le_refl _)))
    have RF := Lib.hid (fun (w' : World) (g : Below w.heap.size w w') => rrules_any l w.heap.size w' _ g.size (h.keep fun b o hb => g.cell (p := ⟨b, o, none⟩) hb))
    have hn1 : l.length ≤ 200 := by omega
    clear h hR hc hm hs
    generalize bs (rulesF l).1 = S at *
    generalize (rulesF l).2 = er at *
    generalize hln : l.length = n at *
    have HN := Lib.hid hln
    clear hln
    go_enter Tryd.func5, Tryd.ntmps5
    go_wp2_with fail
    go_loopw [3] (fun i wL => ∃ k : Nat, k ≤ n ∧ i = .int .i64 k ∧ Hid (Gr w wL)) (fun i _ => n - (intOf i).toNat)
    case atStart => exact ⟨0, by omega, rfl, Lib.hid (Gr.refl _)⟩
    case round =>
      obtain ⟨k, hk, rfl, hG⟩ := hrel
      by_cases hlt : k < n
      · obtain ⟨t, b, o, q, d, u, f, ht, rfl, hb, c1, c2, c3, hs, hu, hts⟩ := (RowR.gr HR.out hG.out (Nat.le_refl _)) k (by rw [HN.out]; exact hlt)
        have K1 := Lib.hid (FW.out t wr _ _ hG.out.size hs hu)
        have KA := Lib.hid (fun (w2 : World) (g : Gr wr w2) => valid_any t w.heap.size w2 _ _ (hG.out.trans g).size hts (hs.gr g hG.out.size) (hu.gr g hG.out.size))
        have KB := Lib.hid (fun (w2 : World) (g : Gr wr w2) => rvalid_any t w.heap.size w2 _ _ (hG.out.trans g).size hts (hs.gr g hG.out.size) (hu.gr g hG.out.size))
        have hb1 : b < wr.heap.size := Nat.lt_of_lt_of_le hb hG.out.size
        clear ht hs hu hts
        generalize t.1.nm = tn at *
        generalize t.1.args.length = ta at *
        generalize t.2.length = tb at *
        generalize vlB t = z at *
        go_wp2_with fail
        refine K1.out.mono ?_
        rintro e w2 ⟨b2, rfl, g2⟩
        have G2 := Lib.hid (hG.out.trans g2)
        have d1 := (g2.cell hb1).trans c1
        have d2 := (g2.cell hb1).trans c2
        have d3 := (g2.cell hb1).trans c3
        have hb2 : b < w2.heap.size := Nat.lt_of_lt_of_le hb1 g2.size
        have HG2 := Lib.hid g2
        clear g2 K1 c1 c2 c3
        cases b2
        · clear KA KB d1 d2 d3
          go_wp2_with fail
          refine (HA.out w2 (HW.out.below G2.out.1 HW.out.1) (HW2.out.below G2.out.1 HW2.out.1)).mono ?_
          rintro e w3 ⟨rfl, k3⟩
          have B3 := Lib.hid (next0 G2.out.1 k3)
          clear k3
          go_wp2_with fail
          go_ret
          exact ⟨rfl, B3.out⟩
        · have LA := Lib.hid (fun (w3 : World) (g : Gr w2 w3) => KA.out w3 (HG2.out.trans g))
          have LB := Lib.hid (fun (w3 : World) (g : Gr w2 w3) => KB.out w3 (HG2.out.trans g))
          clear KA KB
          have Hb : Hid (∀ w', Gr w2 w' → w'.cell? ⟨b, o + k * 3, none⟩ = some (.string tn) ∧ w'.cell? ⟨b, o + k * 3 + 1, none⟩ = some (.slice q ta d) ∧ w'.cell? ⟨b, o + k * 3 + 1 + 1, none⟩ = some (.slice u tb f) ∧ Hid (Gr w2 w') ∧ w2.heap.size ≤ w'.heap.size) := Lib.hid (fun w' g => ⟨(g.cell hb2).trans d1, (g.cell hb2).trans d2, (g.cell hb2).trans d3, Lib.hid g, g.size⟩)
          go_upto_region 8 with fail
          go_cut [35] (fun s35 wx => s35 = .bool false ∧ Hid (Gr w2 wx))
          case first =>
            have hs0 := Hb.out _ (gr_dr (Gr.refl w2))
            have hzz : (z != z) = false := by simp
            clear d1 d2 d3 HG2 FW RU RF HR HI HA
            go_region_held3 (fun w' => w'.cell? ⟨b, o + k * 3, none⟩ = some (.string tn) ∧ w'.cell? ⟨b, o + k * 3 + 1, none⟩ = some (.slice q ta d) ∧ w'.cell? ⟨b, o + k * 3 + 1 + 1, none⟩ = some (.slice u tb f) ∧ Hid (Gr w2 w') ∧ w2.heap.size ≤ w'.heap.size)
              (first | (with_reducible assumption) | (with_reducible exact ⟨‹_›, ‹_›, ‹_›, ‹_›, ‹_›⟩) | (with_reducible refine Hb.out _ ?_; repeat (first | (with_reducible exact Hid.out (by assumption)) | (with_reducible exact Gr.refl _) | (with_reducible refine gr_dr ?_) | (with_reducible refine Gr.more ?_ _))))
              (first | (go_at_call 20; (try go_split_ands); (with_reducible refine (LA.out _ (by repeat (first | (with_reducible exact Hid.out (by assumption)) | (with_reducible exact Gr.refl _) | (with_reducible refine gr_dr ?_) | (with_reducible refine Gr.more ?_ _)))).mono ?_); rintro e w' ⟨rfl, q0⟩; (have qg : Gr w2 w' := by (refine Gr.trans ?_ q0; repeat (first | (with_reducible exact Hid.out (by assumption)) | (with_reducible exact Gr.refl _) | (with_reducible refine gr_dr ?_) | (with_reducible refine Gr.more ?_ _)))); clear q0; obtain ⟨z1, z2, z3, z4, z5⟩ := Hb.out _ qg) | (go_at_call 21; (try go_split_ands); (with_reducible refine (LB.out _ (by repeat (first | (with_reducible exact Hid.out (by assumption)) | (with_reducible exact Gr.refl _) | (with_reducible refine gr_dr ?_) | (with_reducible refine Gr.more ?_ _)))).mono ?_); rintro e w' ⟨rfl, q0⟩; (have qg : Gr w2 w' := by (refine Gr.trans ?_ q0; repeat (first | (with_reducible exact Hid.out (by assumption)) | (with_reducible exact Gr.refl _) | (with_reducible refine gr_dr ?_) | (with_reducible refine Gr.more ?_ _)))); clear q0; obtain ⟨z1, z2, z3, z4, z5⟩ := Hb.out _ qg))
            all_goals
              go_wp2_with fail
              go_meet
              exact ⟨rfl, Lib.hid qg⟩
          case rest =>
            obtain ⟨rfl, G5⟩ := hcut
            go_wp2_with fail
            go_roundw
            case rel => exact ⟨k + 1, by omega, by go_num, Lib.hid (G2.out.trans G5.out)⟩
            case measure => simp [intOf] <;> omega
      · obtain rfl : k = n := by omega
        have C1 := Lib.hid (RU.out wr (HW2.out.below hG.out.1 HW2.out.1) hG.out)
        clear RU
        go_wp2_with fail
        refine C1.out.mono ?_
        rintro e w1 ⟨rfl, k1⟩
        have B1 := Lib.hid (next0 hG.out.1 k1)
        clear k1 C1
        go_wp2_with fail
        refine (RF.out w1 B1.out).mono ?_
        rintro e w2 ⟨rfl, k2⟩
        have B2 := Lib.hid (next0 B1.out k2.1)
        clear k2 RF B1
        go_wp2_with fail
        refine (HA.out w2 (HW.out.below B2.out HW.out.1) (HW2.out.below B2.out HW2.out.1)).mono ?_
        rintro e w3 ⟨rfl, k3⟩
        have B3 := Lib.hid (next0 B2.out k3)
        clear k3
        go_wp2_with fail
        go_ret
        exact ⟨rfl, B3.out⟩
end PriV
end Go.Proofs.YtfdpelokiljigaaDoor
