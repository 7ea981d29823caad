/- Texts laid together: UniJ; UniB; UniG; UniO; UniL; UnmA. Their own heads stand before each. -/
import Derived.Test.YtdkpflojdnkbnaaGreatDoorHAF
import Derived.Shelf.Spec.SlicesInsert
import Derived.Lib.AppendZerosOnto
import Derived.Laws.NewBlocks
import Derived.Laws.IdiomCopy
import Derived.Test.YtdkpflojdnkbnaaGreatDoorHAE
import Derived.Deep.AppendLies
import Derived.Deep.RegionLaw
import Derived.Test.YtdkpflojdnkbnaaGreatDoorHAD
import Derived.OwnWalk
import Derived.Laws.OwnMore
import Derived.Deep.DeepCutAuto
import Derived.Deep.RegionWith
import Derived.Test.YtdkpflojdnkbnaaGreatDoorHAH
import Derived.Test.YtdkpflojdnkbnaaGreatDoorHAI
import Derived.Maps.OwnSet
/- slices.Clip and slices.Insert at bindings. Condition: at most a thousand bindings. -/
namespace Go.Proofs.YtdkpflojdnkbnaaGreatDoor
open Go Go.RowKit
namespace UniJ
open LexM TermM TermI Kit TermN TermU UniK UniM UniA UniC UniD UniE
theorem infoB : (Tryz.prog.info? 69).map (fun i => (i.zero, i.size, i.bytes)) = some (some (.agg #[.string ⟨#[]⟩, .string ⟨#[]⟩, .slice none 0 0]), 3, 56) := by kernel_rfl
abbrev zB : Value := .agg #[.string ⟨#[]⟩, .string ⟨#[]⟩, .slice none 0 0]
theorem flat_take {α : Type} {K : Kd α} (L : List α) (i : Nat) (hi : i ≤ L.length) : (K.flat L).take (i * 3) = K.flat (L.take i) := by
  have h : K.flat L = K.flat (L.take i) ++ K.flat (L.drop i) := by rw [← flat_app, List.take_append_drop]
  have hl : (K.flat (L.take i)).length = i * 3 := by rw [flat_len, List.length_take]; congr 1; omega
  rw [h, ← hl, List.take_left]
theorem flat_at {α : Type} {K : Kd α} {L : List α} {w : World} {g o : Nat} (h : ∀ i x, L[i]? = some x → ∀ j u, (K.cells x)[j]? = some u → w.cell? ⟨g, o + i * 3 + j, none⟩ = some u) :
    ∀ j v, (K.flat L)[j]? = some v → w.cell? ⟨g, o + j, none⟩ = some v := by
  intro j v hj
  have hl := (List.getElem?_eq_some_iff.1 hj).1
  rw [flat_len] at hl
  have hq : j / 3 < L.length := by omega
  have hx : L[j / 3]? = some L[j / 3] := List.getElem?_eq_getElem hq
  have hc : (K.cells L[j / 3])[j % 3]? = some ((K.cells L[j / 3])[j % 3]'(by rw [K.len]; omega)) := List.getElem?_eq_getElem _
  have e := flat_get L (j / 3) _ hx (j % 3) _ hc
  rw [show j / 3 * 3 + j % 3 = j by omega, hj] at e
  cases e
  have := h (j / 3) _ hx (j % 3) _ hc
  rwa [show o + j / 3 * 3 + j % 3 = o + j by omega] at this
theorem kb_one {ok : Nat → Prop} {w : World} {x : Bd × Value} (h : KB.inn ok w x) : ∀ u ∈ KB.cells x, u.oneCell' = true := by
  obtain ⟨p, c, e⟩ := h.1.form
  intro u hu
  simp only [KB, e, List.mem_cons, List.not_mem_nil, or_false] at hu
  rcases hu with rfl | rfl | rfl <;> rfl
theorem flat_one' {ok : Nat → Prop} {w : World} {L : List (Bd × Value)} (h : ∀ x ∈ L, KB.inn ok w x) : ∀ u ∈ KB.flat L, u.oneCell' = true := by
  intro u hu
  unfold Kd.flat at hu
  obtain ⟨x, hx, hu⟩ := List.mem_flatMap.1 hu
  exact kb_one (h x hx) u hu
end UniJ
end Go.Proofs.YtdkpflojdnkbnaaGreatDoor
/- Valid of substitutions, the reference; made by genunia.py. No conditions on sizes. -/
namespace Go.Proofs.YtdkpflojdnkbnaaGreatDoor
open Go Go.RowKit
namespace UniB
open LexM TermM TermI Kit TermN TermU UniK UniM UniA
end UniB
end Go.Proofs.YtdkpflojdnkbnaaGreatDoor
/- The reference's Variable, Lookup and Apply of substitutions; made by genunig.py. Condition: at most a million parts. -/
namespace Go.Proofs.YtdkpflojdnkbnaaGreatDoor
open Go Go.RowKit
namespace UniG
open LexM TermM TermI Kit TermN TermU UniK UniM UniA UniC UniD UniE
/-- The slice value v is a row of the call's own, from block base on, that holds the terms of L; the lists behind them lie in blocks from base on too, none of them the row's. -/
def OwnB (B base : Nat) (w : World) (L : List (Tm × Value)) (v : Value) : Prop :=
  w.ownsRow base 24 2 v L.length (flatL L) ∧ ∃ ok : Nat → Prop, (∀ b, ok b → (b < B ∨ base ≤ b) ∧ b < w.heap.size ∧ v.ownBlock ≠ some b) ∧ ∀ x ∈ L, SlIn ok w x.1.args x.2 ∧ x.1.nm.size ≤ maxLen
section
variable {B base : Nat} {w w' : World} {L : List (Tm × Value)} {v : Value}
theorem OwnB.nil (B base : Nat) (w : World) : OwnB B base w [] (.slice none 0 0) :=
  ⟨⟨rfl, Or.inl ⟨rfl, rfl⟩⟩, fun _ => False, fun b h => h.elim, fun x h => by simp at h⟩
theorem OwnB.form (h : OwnB B base w L v) : ∃ a c, v = .slice a L.length c := by
  rcases h.1.2 with ⟨e, hz⟩ | ⟨g, cap, cur, e, _⟩
  · exact ⟨none, 0, by rw [e, hz]⟩
  · exact ⟨_, cap, e⟩
theorem OwnB.below (h : OwnB B base w L v) (hb : Below w.heap.size w w') : OwnB B base w' L v := by
  obtain ⟨h1, ok, h2, h3⟩ := h
  have hl := h1.lt
  refine ⟨⟨h1.1, ?_⟩, ok, fun b hk => ⟨(h2 b hk).1, Nat.lt_of_lt_of_le (h2 b hk).2.1 hb.size, (h2 b hk).2.2⟩, fun x hx => ⟨(h3 x hx).1.frame fun b o hk => hb.cell (p := ⟨b, o, none⟩) (h2 b hk).2.1, (h3 x hx).2⟩⟩
  rcases h1.2 with h | ⟨g, cap, cur, e1, e2, e3, e4⟩
  · exact Or.inl h
  · exact Or.inr ⟨g, cap, cur, e1, e2, (hb.block g (hl g (by rw [e1]; rfl)).2).trans e3, e4⟩
theorem OwnB.far (h : OwnB B base w L v) {p : Addr} (hp : p.block < base) (hp2 : B ≤ p.block) (u : Value) : OwnB B base (w.setCell p u) L v := by
  obtain ⟨h1, ok, h2, h3⟩ := h
  refine ⟨ownsRow_setCell_below h1 hp u, ok, fun b hk => ⟨(h2 b hk).1, by simpa using (h2 b hk).2.1, (h2 b hk).2.2⟩, fun x hx => ⟨(h3 x hx).1.frame fun b o hk => ?_, (h3 x hx).2⟩⟩
  exact World.cell?_of_block (w := w) (a := ⟨b, o, none⟩) (Below.heap_setCell _ _ _ _ (show b ≠ p.block by have := (h2 b hk).1; omega))
theorem OwnB.add {w2 w3 : World} {o : Obj} {lo g cap : Nat} {t : Tm} {v1 : Value} (h : OwnB B base w2 L v) (hB : B ≤ base) (hBs : B ≤ w2.heap.size) (hs : SlIn (fun b => b < B ∨ (lo ≤ b ∧ b < w2.heap.size)) w2 t.args v1) (hn : t.nm.size ≤ maxLen) (hlo : base ≤ lo) (hv : ∀ k, v.ownBlock = some k → k < lo)
    (hown : w3.ownsRow base 24 2 (.slice (some ⟨g, 0, none⟩) (L.length + 1) cap) (L.length + 1) (flatL L ++ [.string t.nm, v1])) (hgrow : (w2.alloc o).grownBy w3 v.ownBlock) (hat : v.ownBlock = some g ∨ g = w2.heap.size + 1) :
    OwnB B base w3 (L ++ [(t, v1)]) (.slice (some ⟨g, 0, none⟩) (L.length + 1) cap) := by
  obtain ⟨h1, ok, h2, h3⟩ := h
  have hsz : w2.heap.size + 1 ≤ w3.heap.size := by have := hgrow.size; simpa using this
  have fr : ∀ b o, b < w2.heap.size → v.ownBlock ≠ some b → w3.cell? ⟨b, o, none⟩ = w2.cell? ⟨b, o, none⟩ := fun b o hb hne => by
    refine World.cell?_of_block (w := w2) (a := ⟨b, o, none⟩) ?_
    exact (hgrow.block b (by simp; omega) (fun e => hne e.symm)).trans (Below.heap_alloc _ _ _ hb)
  refine ⟨by rw [List.length_append, flatL_snoc]; exact hown, fun b => ok b ∨ (b < B ∨ (lo ≤ b ∧ b < w2.heap.size)), fun b hk => ?_, fun x hx => ?_⟩
  · rcases hk with hk | hk
    · obtain ⟨a1, a2, a3⟩ := h2 b hk
      refine ⟨a1, by omega, ?_⟩
      intro e
      have e' : g = b := by simpa [Value.ownBlock] using e
      rcases hat with h | h
      · exact a3 (by rw [h, e'])
      · omega
    · refine ⟨by omega, by omega, ?_⟩
      intro e
      have e' : g = b := by simpa [Value.ownBlock] using e
      rcases hat with h | h
      · have := hv g h; have := (h1.lt g h).1; omega
      · omega
  · rcases List.mem_append.1 hx with hx | hx
    · refine ⟨((h3 x hx).1.frame fun b o hk => fr b o (h2 b hk).2.1 (h2 b hk).2.2).weaken fun b hk => Or.inl hk, (h3 x hx).2⟩
    · obtain rfl := List.mem_singleton.1 hx
      refine ⟨(hs.frame fun b o hk => fr b o (by omega) (fun e => by have := hv b e; have := (h1.lt b e).1; omega)).weaken fun b hk => Or.inr hk, hn⟩
theorem OwnB.slin (h : OwnB B base w L v) : SlIn (fun b => b < B ∨ (base ≤ b ∧ b < w.heap.size)) w (L.map (·.1)) v := by
  obtain ⟨h1, ok, h2, h3⟩ := h
  have hl := h1.lt
  have key : ∀ (i : Nat) (t : Tm), (L.map (·.1))[i]? = some t → ∃ x : Tm × Value, L[i]? = some x ∧ x.1 = t := by
    intro i t ht
    rw [List.getElem?_map] at ht
    obtain ⟨x, a, b⟩ := Option.map_eq_some_iff.1 ht
    exact ⟨x, a, b⟩
  rcases h1.2 with ⟨rfl, hz⟩ | ⟨g, cap, cur, rfl, e2, e3, e4, e5, e6, e7⟩
  · have : L = [] := List.eq_nil_of_length_eq_zero hz
    subst this
    exact SlIn.none _ _
  · have hm : (L.map (·.1)).length = L.length := by simp
    rw [← hm]
    refine .mk _ cap _ (fun i => (L.getD i (default, undef)).2) g 0 (fun _ => ⟨rfl, Or.inr (hl g rfl)⟩) (fun h => by cases h) (by rw [hm]; exact e4) e5 (fun i t ht => ?_) (fun i t ht => ?_)
    · obtain ⟨x, hx, rfl⟩ := key i t ht
      have hi : i < L.length := (List.getElem?_eq_some_iff.1 hx).1
      obtain ⟨f1, f2⟩ := flatL_get L i x hx
      rw [Nat.zero_add]
      exact ⟨(h1.cellAt _ (by omega)).trans f1, by rw [h1.cellAt _ (by omega), f2]; simp [List.getD, hx], (h3 x (List.mem_of_getElem? hx)).2⟩
    · obtain ⟨x, hx, rfl⟩ := key i t ht
      have := (h3 x (List.mem_of_getElem? hx)).1.weaken fun b hk => (show b < B ∨ (base ≤ b ∧ b < w.heap.size) from by have h1 := (h2 b hk).1; have h3 := (h2 b hk).2.1; omega)
      simpa [List.getD, hx] using this
end
theorem look_first : ∀ {s : List Bd} {v : ByteArray} {k : Nat} {y : Bd}, (∀ j x, j < k → s[j]? = some x → eqB x.1 v = false) → s[k]? = some y → eqB y.1 v = true → lookS s v = some y.2
  | [], _, _, _, _, h, _ => by simp at h
  | a :: s, v, 0, y, _, h, e => by
    simp at h
    subst h
    simp [lookS, e]
  | a :: s, v, k + 1, y, h0, h, e => by
    have ha := h0 0 a (by omega) rfl
    have := look_first (s := s) (v := v) (k := k) (y := y) (fun j x hj hx => h0 (j + 1) x (by omega) (by simpa using hx)) (by simpa using h) e
    unfold lookS at this ⊢
    rw [List.find?_cons, ha]
    exact this
theorem look_nothing {s : List Bd} {v : ByteArray} (h : ∀ j x, j < s.length → s[j]? = some x → eqB x.1 v = false) : lookS s v = none := by
  unfold lookS
  rw [List.find?_eq_none.2 (fun y hy => by
    obtain ⟨j, hj⟩ := List.mem_iff_getElem?.1 hy
    have := h j y (List.getElem?_eq_some_iff.1 hj).1 hj
    simp [this])]
  rfl
/-- What the reference's Lookup leaves. -/
def RLkR (B : Nat) (o : Option Tm) (w : World) (e : Ending) (w' : World) : Prop :=
  ∃ (u : Tm) (p : Option Addr) (c : Nat) (f : Bool), e = .returned (.tuple #[.agg #[.string u.nm, .slice p u.args.length c], .bool f]) ∧ ((o = some u ∧ f = true) ∨ (o = none ∧ u = .mk ⟨#[]⟩ [] ∧ f = false)) ∧
    SlIn (· < B) w' u.args (.slice p u.args.length c) ∧ u.nm.size ≤ maxLen ∧ Below w.heap.size w w'
set_option maxRecDepth 100000 in
set_option maxHeartbeats 3200000 in
theorem rlookup_any (s : List Bd) (v : ByteArray) (B : Nat) (w : World) (sv : Value) (hB : B ≤ w.heap.size) (h : SIn (· < B) w s sv) :
    Calls Tryz.prog 118 #[sv, .string v] w (RLkR B (lookS s v) w) := by
  obtain ⟨W1, hW1⟩ : ∃ W1, W1 = w.alloc (.cells #[.string ⟨#[]⟩, .slice none 0 0] 24) := ⟨_, rfl⟩
  have G1 : Gr w W1 := by rw [hW1]; exact Gr.alloc _ _
  have H1 : Hid (Has W1 w.heap.size #[.string ⟨#[]⟩, .slice none 0 0]) := Lib.hid (by rw [hW1]; exact Has.new _ _ _)
  have hz1 : w.heap.size + 1 ≤ W1.heap.size := by rw [hW1]; simp
  obtain ⟨p, c, rfl, hc, hm, hR⟩ := SIn.row h
  have hlm : s.length ≤ maxLen := Nat.le_trans hc hm
  unfold maxLen at hlm
  have HR := Lib.hid (hR.gr G1 hB)
  have HB := Lib.hid (Nat.le_trans hB G1.size)
  have HB0 := Lib.hid hB
  have GG := Lib.hid G1
  have LF := Lib.hid (fun k y h1 h2 h3 => look_first (s := s) (v := v) (k := k) (y := y) h1 h2 h3)
  have LN := Lib.hid (fun h => look_nothing (s := s) (v := v) h)
  generalize lookS s v = o9 at *
  generalize hln : s.length = n at *
  have HN := Lib.hid hln
  obtain ⟨y1, y2, y3, y4, y5⟩ := H1.out.two
  clear h hR hB hc hm G1 hln
  unfold RLkR
  go_enter Tryz.func118, Tryz.ntmps118
  go_upto_region 1 with fail
  rw [← hW1]
  clear hW1
  go_wp2_with fail
  go_loopw [6] (fun i wr => ∃ k : Nat, k ≤ n ∧ i = .int .i64 k ∧ Hid (∀ j x, j < k → s[j]? = some x → eqB x.1 v = false) ∧ wr = W1) (fun i _ => n - (intOf i).toNat)
  case atStart => exact ⟨0, Nat.zero_le _, rfl, Lib.hid (fun j x h => absurd h (Nat.not_lt_zero _)), rfl⟩
  case round =>
    obtain ⟨k, hk, rfl, hA, rfl⟩ := hrel
    by_cases hlt : k < n
    · obtain ⟨t, b, o, q, d, ht, rfl, hb, c1, c2, c3, hs, hts, htv⟩ := HR.out k (by rw [HN.out]; exact hlt)
      obtain ⟨z, hz⟩ : ∃ z, (t.1.toList == v.toList) = z := ⟨_, rfl⟩
      have HZ : Hid (eqB t.1 v = z) := Lib.hid (by unfold eqB; rw [← hz, ByteArray.toList_eq, ByteArray.toList_eq])
      have HT := Lib.hid ht
      have NX : Hid (z = false → ∀ j x, j < k + 1 → s[j]? = some x → eqB x.1 v = false) := Lib.hid (fun hz0 j x hj hx => by
        by_cases e : j = k
        · subst e; rw [HT.out] at hx; cases hx; rw [HZ.out, hz0]
        · exact hA.out j x (by omega) hx)
      have HF : Hid (z = true → o9 = some t.2) := Lib.hid (fun h => LF.out k t hA.out HT.out (HZ.out.trans h))
      have HS := Lib.hid hs
      have HTS := Lib.hid hts
      have hbl : b < w.heap.size := Nat.lt_of_lt_of_le hb HB0.out
      clear ht hs hts htv hA
      generalize t.1 = tv at *
      generalize t.2 = u at *
      cases z
      · go_wp2_with fail
        go_roundw
        case rel => exact ⟨k + 1, by omega, by go_num, Lib.hid (NX.out rfl), trivial⟩
        case measure => simp [intOf]; omega
      · have FO := Lib.hid (HF.out rfl)
        have r1 := H1.out.put0 (.string u.nm) (.slice q u.args.length d)
        have r2 := H1.out.put1 (.string u.nm) (.slice q u.args.length d)
        have S5 := Lib.hid (HS.out.frame (w' := (wr.setCell ⟨w.heap.size, 0, none⟩ (.string u.nm)).setCell ⟨w.heap.size, 1, none⟩ (.slice q u.args.length d)) (fun b o hb => by
          have := HB0.out
          rw [cell_far (by show b ≠ w.heap.size; omega), cell_far (by show b ≠ w.heap.size; omega)]))
        have D5 := Lib.hid ((GG.out.1.setCell (p := ⟨w.heap.size, 0, none⟩) (by simp) (.string u.nm)).setCell (p := ⟨w.heap.size, 1, none⟩) (by simp) (.slice q u.args.length d))
        clear HF NX LF LN HS
        go_wp2_with fail
        refine bodyPost_ret (v := .tuple #[.agg #[.string u.nm, .slice q u.args.length d], .bool true]) (by simp [results, Tryz.results118, go_sem, r1, r2]) rfl ?_
        exact ⟨u, q, d, true, rfl, Or.inl ⟨FO.out, rfl⟩, S5.out, HTS.out, D5.out⟩
    · obtain rfl : k = n := by omega
      have FO := Lib.hid (LN.out (fun j x hj hx => hA.out j x hj hx))
      have r1 := H1.out.put0 (.string ⟨#[]⟩) (.slice none 0 0)
      have r2 := H1.out.put1 (.string ⟨#[]⟩) (.slice none 0 0)
      clear LF LN hA
      go_wp2_with fail
      refine bodyPost_ret (v := .tuple #[.agg #[.string ⟨#[]⟩, .slice none 0 0], .bool false]) (by simp [results, Tryz.results118, go_sem, r1, r2]) rfl ?_
      exact ⟨.mk ⟨#[]⟩ [], none, 0, false, rfl, Or.inr ⟨FO.out, rfl, rfl⟩, SlIn.none _ _, by show (0 : Nat) ≤ maxLen; exact Nat.zero_le _, ((GG.out.1.setCell (by simp) _).setCell (by simp) _)⟩
/-- A variable: no arguments and a variable's name. -/
def isV (t : Tm) : Bool := t.args.isEmpty && varB t.nm
set_option maxRecDepth 100000 in
theorem rvar_t (t : Tm) (p : Option Addr) (c : Nat) (w : World) (hn : t.nm.size ≤ maxLen) :
    Calls Tryz.prog 117 #[.agg #[.string t.nm, .slice p t.args.length c]] w fun e w' => e = .returned (.bool (isV t)) ∧ Gr w w' := by
  have KV := Lib.hid (fun w' => TermC.rvar_any t.nm w' hn)
  have vb_ : Hid (varL t.nm.data.toList = varB t.nm) := rfl
  rw [vb_.out] at KV
  have E : isV t = (t.args.isEmpty && varB t.nm) := rfl
  obtain ⟨n, l⟩ := t
  dsimp only [Tm.nm, Tm.args] at *
  generalize isV (.mk n l) = R at *
  generalize varB n = vb at *
  cases l with
  | nil =>
    simp only [List.isEmpty_nil, Bool.true_and] at E
    subst E
    go_enter Tryz.func117, Tryz.ntmps117
    go_wp2_with fail
    refine (KV.out _).mono ?_
    rintro e w' ⟨rfl, rfl⟩
    go_wp2_with fail
    go_ret
    exact ⟨rfl, Gr.alloc _ _⟩
  | cons a l =>
    simp only [List.isEmpty_cons, Bool.false_and] at E
    subst E
    have h0 : ((((a :: l).length : Nat) : Int) == 0) = false := by rw [beq_eq_false_iff_ne]; simp; omega
    generalize (a :: l).length = m at *
    go_enter Tryz.func117, Tryz.ntmps117
    go_wp2_with fail
    go_ret
    exact ⟨rfl, Gr.alloc _ _⟩
end UniG
end Go.Proofs.YtdkpflojdnkbnaaGreatDoor
/- Matching as plain functions, of the code (with the limit of bindings) and of the reference; where they agree. No conditions. -/
namespace Go.Proofs.YtdkpflojdnkbnaaGreatDoor
open Go
namespace UniO
open LexM TermM UniM UniA UniC UniE UniG
end UniO
end Go.Proofs.YtdkpflojdnkbnaaGreatDoor
/- The code's variable, sameHead, bind and extend. Conditions: the substitution's names ascend and are at most 64. -/
namespace Go.Proofs.YtdkpflojdnkbnaaGreatDoor
open Go Go.RowKit
namespace UniL
open LexM TermM TermI Kit TermN TermU UniK UniM UniA UniC UniD UniE UniG UniJ UniO
end UniL
end Go.Proofs.YtdkpflojdnkbnaaGreatDoor
/- Classes of terms as plain data, with fuel; and a map of the call's own whose elements are held as they are. No conditions. -/
namespace Go.Proofs.YtdkpflojdnkbnaaGreatDoor
open Go Go.RowKit Go.Maps Go.WideMaps
namespace UnmA
open LexM TermM TermI Kit TermN TermU UniM UniG TermT
abbrev Ky := List UInt8
/-- What a map reads as, the latest entry first. -/
def DataOf (L : List (Ky × Value)) : DataW Value := L.foldr (fun x D => D.put (.string x.1) (.held x.2)) (.map [])
def heldE : Value → Option (DataW Value × List MemPlace) := fun v => some (.held v, [])
abbrev Cls := List (Ky × Tm)
/-- Is it a term whose text can be had? -/
def Ok (t : Tm) : Prop := t.nm.size ≤ maxLen ∧ (textT t).length ≤ 1000000 ∧ sizeT t ≤ 1000000
/-- Block bm is the map of the classes; their terms lie below B. -/
def Cl (w : World) (bm B : Nat) (D : Cls) : Prop :=
  ∃ L : List (Ky × Tm × Value), D = L.map (fun x => (x.1, x.2.1)) ∧ w.ownsMap Tryz.prog 9 heldE bm D.length (DataOf (L.map fun x => (x.1, Value.agg #[.string x.2.1.nm, x.2.2]))) ∧ (∀ x ∈ L, SlIn (· < B) w x.2.1.args x.2.2 ∧ Ok x.2.1)
theorem Cl.lt {w : World} {bm B : Nat} {D : Cls} (h : Cl w bm B D) : bm < w.heap.size := by
  obtain ⟨L, _, h, _⟩ := h
  exact h.lt
theorem Cl.made (w : World) (B : Nat) : Cl (w.alloc (.map #[] 0)) w.heap.size B [] :=
  ⟨[], rfl, World.ownsMap_made _ _ _ _, fun x hx => by cases hx⟩
theorem Cl.keep {w w' : World} {bm B : Nat} {D : Cls} (h : Cl w bm B D) (hb : Below w.heap.size w w') (hB : B ≤ w.heap.size) : Cl w' bm B D := by
  have hl := h.lt
  obtain ⟨L, h1, h2, h3⟩ := h
  exact ⟨L, h1, h2.kept (row := none) ⟨hb.os, hb.tape, hb.output, hb.size, fun i hi _ => hb.block i hi⟩ (by simp), fun x hx => ⟨(h3 x hx).1.deep hb hB, (h3 x hx).2⟩⟩
end UnmA
end Go.Proofs.YtdkpflojdnkbnaaGreatDoor
