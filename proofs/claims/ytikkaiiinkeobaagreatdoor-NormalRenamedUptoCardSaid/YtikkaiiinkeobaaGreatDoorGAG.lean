/- Texts laid together: UniJ; UniB; UniG; UniO; UniL; UnmA. Their own heads stand before each. -/
import Derived.Test.YtikkaiiinkeobaaGreatDoorGAF
import Derived.Shelf.Spec.SlicesInsert
import Derived.Lib.AppendZerosOnto
import Derived.Laws.NewBlocks
import Derived.Laws.IdiomCopy
import Derived.Test.YtikkaiiinkeobaaGreatDoorGAE
import Derived.Deep.AppendLies
import Derived.Deep.RegionLaw
import Derived.Test.YtikkaiiinkeobaaGreatDoorGAD
import Derived.OwnWalk
import Derived.Laws.OwnMore
import Derived.Deep.DeepCutAuto
import Derived.Deep.RegionWith
import Derived.Test.YtikkaiiinkeobaaGreatDoorGAH
import Derived.Test.YtikkaiiinkeobaaGreatDoorGAI
import Derived.Maps.OwnSet
/- slices.Clip and slices.Insert at bindings. Condition: at most a thousand bindings. -/
namespace Go.Proofs.YtikkaiiinkeobaaGreatDoor
open Go Go.RowKit
namespace UniJ
open LexM TermM TermI Kit TermN TermU UniK UniM UniA UniC UniD UniE
theorem infoB : (Tryz.prog.info? 69).map (fun i => (i.zero, i.size, i.bytes)) = some (some (.agg #[.string ⟨#[]⟩, .string ⟨#[]⟩, .slice none 0 0]), 3, 56) := by kernel_rfl
abbrev zB : Value := .agg #[.string ⟨#[]⟩, .string ⟨#[]⟩, .slice none 0 0]
theorem run_copy_wide {P : Program} (k : Nat) (w : World) (dT sT ty elem : TypeId) (b o dLen dCap : Nat) (a : Addr) (sLen sCap : Nat) (cs : List Value)
    (hu : P.underlying dT = some (.slice elem)) (hs : (P.info? elem).map (·.size) = some k) (hn : cs.length = Nat.min sLen dLen * k)
    (hsrc : ∀ j v, cs[j]? = some v → w.cell? (a.add j) = some v) (hc : ∀ j, j < cs.length → (w.cell? ⟨b, o + j, none⟩).isSome = true) (hf : ∀ j, j < cs.length → w.frozen? ⟨b, o + j, none⟩ = false) (h1 : ∀ v ∈ cs, v.oneCell' = true) :
    (Builtin.copy_ #[dT, sT] ty #[.slice (some ⟨b, o, none⟩) dLen dCap, .slice (some a) sLen sCap]).run P w = .ok (goInt (Nat.min sLen dLen)) (w.setCells b o cs) := by
  have hl := run_loadCells_list (P := P) w a cs hsrc
  have hst := run_storeCells_cells (P := P) b o cs 0 w (by simpa using hc) (by simpa using hf) h1
  cases hq : P.info? elem with
  | none => simp [hq] at hs
  | some i =>
    have hi : i.size = k := by simpa [hq] using hs
    simp [Builtin.copy_, run_underlying hu, Builtin.lenOf, Builtin.firstCells, sizeOf, typeInfo, hq, hi, ← hn, hl, hst]
theorem flat_take {α : Type} {K : Kd α} (L : List α) (i : Nat) (hi : i ≤ L.length) : (K.flat L).take (i * 3) = K.flat (L.take i) := by
  have h : K.flat L = K.flat (L.take i) ++ K.flat (L.drop i) := by rw [← flat_app, List.take_append_drop]
  have hl : (K.flat (L.take i)).length = i * 3 := by rw [flat_len, List.length_take]; congr 1; omega
  rw [h, ← hl, List.take_left]
theorem flat_drop {α : Type} {K : Kd α} (L : List α) (i : Nat) (hi : i ≤ L.length) : (K.flat L).drop (i * 3) = K.flat (L.drop i) := by
  have h : K.flat L = K.flat (L.take i) ++ K.flat (L.drop i) := by rw [← flat_app, List.take_append_drop]
  have hl : (K.flat (L.take i)).length = i * 3 := by rw [flat_len, List.length_take]; congr 1; omega
  rw [h, ← hl, List.drop_left]
theorem flat_at {α : Type} {K : Kd α} {L : List α} {w : World} {g o : Nat} (h : ∀ i x, L[i]? = some x → ∀ j u, (K.cells x)[j]? = some u → w.cell? ⟨g, o + i * 3 + j, none⟩ = some u) :
    ∀ j v, (K.flat L)[j]? = some v → w.cell? ⟨g, o + j, none⟩ = some v := by
  intro j v hj
  have hl := (List.getElem?_eq_some_iff.1 hj).1
  rw [flat_len] at hl
  have hq : j / 3 < L.length := by omega
  have hx : L[j / 3]? = some L[j / 3] := List.getElem?_eq_getElem hq
  have hc : (K.cells L[j / 3])[j % 3]? = some ((K.cells L[j / 3])[j % 3]'(by rw [K.len]; omega)) := List.getElem?_eq_getElem _
  have e := flat_get L (j / 3) _ hx (j % 3) _ hc
  rw [show j / 3 * 3 + j % 3 = j by omega, hj] at e
  cases e
  have := h (j / 3) _ hx (j % 3) _ hc
  rwa [show o + j / 3 * 3 + j % 3 = o + j by omega] at this
theorem kb_one {ok : Nat → Prop} {w : World} {x : Bd × Value} (h : KB.inn ok w x) : ∀ u ∈ KB.cells x, u.oneCell' = true := by
  obtain ⟨p, c, e⟩ := h.1.form
  intro u hu
  simp only [KB, e, List.mem_cons, List.not_mem_nil, or_false] at hu
  rcases hu with rfl | rfl | rfl <;> rfl
theorem flat_one' {ok : Nat → Prop} {w : World} {L : List (Bd × Value)} (h : ∀ x ∈ L, KB.inn ok w x) : ∀ u ∈ KB.flat L, u.oneCell' = true := by
  intro u hu
  unfold Kd.flat at hu
  obtain ⟨x, hx, hu⟩ := List.mem_flatMap.1 hu
  exact kb_one (h x hx) u hu
theorem below_setCells' {B g : Nat} {a : World} (hg : B ≤ g) : ∀ (vs : List Value) (o : Nat) (w : World), Below B a w → Below B a (w.setCells g o vs)
  | [], _, _, h => h
  | v :: r, o, _, h => below_setCells' hg r (o + 1) _ (h.setCell (p := ⟨g, o, none⟩) hg v)
/-- A binding put in. -/
def InsR (s : List Bd) (w : World) (e : Ending) (w' : World) : Prop := ∃ v, e = .returned v ∧ SIn (· < w'.heap.size) w' s v ∧ Below w.heap.size w w'
theorem row_put {w w' : World} {L : List (Bd × Value)} {x : Bd × Value} {i cap : Nat} (hi : i ≤ L.length) (hb : Below w.heap.size w w') (hL : ∀ y ∈ L, KB.inn (· < w.heap.size) w y) (hx : KB.inn (· < w.heap.size) w x) (hc : L.length + 1 ≤ cap) (hm : cap ≤ maxLen)
    (hat : ∀ j v, (KB.flat (L.take i ++ x :: L.drop i))[j]? = some v → w'.cell? ⟨w.heap.size, j, none⟩ = some v) :
    SIn (· < w'.heap.size) w' ((L.map (·.1)).take i ++ x.1 :: (L.map (·.1)).drop i) (.slice (some ⟨w.heap.size, 0, none⟩) (L.length + 1) cap) := by
  have hlen : (L.take i ++ x :: L.drop i).length = L.length + 1 := by simp; omega
  have k : ∀ y, KB.inn (· < w.heap.size) w y → KB.inn (· < w'.heap.size) w' y := fun y h => KB.wide (KB.keep h fun b o hlt => hb.cell (p := ⟨b, o, none⟩) hlt) fun b hlt => Nat.lt_of_lt_of_le hlt hb.size
  refine ⟨L.take i ++ x :: L.drop i, by simp [List.map_take, List.map_drop], some ⟨w.heap.size, 0, none⟩, cap, by rw [hlen], by omega, hm, fun y hy => ?_, fun _ => ⟨w.heap.size, 0, rfl, ?_, fun n y hy j u hu => ?_⟩⟩
  · rcases List.mem_append.1 hy with h | h
    · exact k y (hL y (List.mem_of_mem_take h))
    · rcases List.mem_cons.1 h with rfl | h
      · exact k _ hx
      · exact k y (hL y (List.mem_of_mem_drop h))
  · have h0 : 0 < (KB.flat (L.take i ++ x :: L.drop i)).length := by rw [flat_len, hlen]; omega
    exact block_lt_of_cell (hat 0 _ (List.getElem?_eq_getElem h0))
  · rw [show 0 + n * 3 + j = n * 3 + j by omega]
    exact hat _ _ (flat_get _ n y hy j u hu)
end UniJ
end Go.Proofs.YtikkaiiinkeobaaGreatDoor
/- Valid of substitutions, the reference; made by genunia.py. No conditions on sizes. -/
namespace Go.Proofs.YtikkaiiinkeobaaGreatDoor
open Go Go.RowKit
namespace UniB
open LexM TermM TermI Kit TermN TermU UniK UniM UniA
end UniB
end Go.Proofs.YtikkaiiinkeobaaGreatDoor
/- The reference's Variable, Lookup and Apply of substitutions; made by genunig.py. Condition: at most a million parts. -/
namespace Go.Proofs.YtikkaiiinkeobaaGreatDoor
open Go Go.RowKit
namespace UniG
open LexM TermM TermI Kit TermN TermU UniK UniM UniA UniC UniD UniE
/-- The slice value v is a row of the call's own, from block base on, that holds the terms of L; the lists behind them lie in blocks from base on too, none of them the row's. -/
def OwnB (B base : Nat) (w : World) (L : List (Tm × Value)) (v : Value) : Prop :=
  w.ownsRow base 24 2 v L.length (flatL L) ∧ ∃ ok : Nat → Prop, (∀ b, ok b → (b < B ∨ base ≤ b) ∧ b < w.heap.size ∧ v.ownBlock ≠ some b) ∧ ∀ x ∈ L, SlIn ok w x.1.args x.2 ∧ x.1.nm.size ≤ maxLen
section
variable {B base : Nat} {w w' : World} {L : List (Tm × Value)} {v : Value}
theorem OwnB.nil (B base : Nat) (w : World) : OwnB B base w [] (.slice none 0 0) :=
  ⟨⟨rfl, Or.inl ⟨rfl, rfl⟩⟩, fun _ => False, fun b h => h.elim, fun x h => by simp at h⟩
theorem OwnB.form (h : OwnB B base w L v) : ∃ a c, v = .slice a L.length c := by
  rcases h.1.2 with ⟨e, hz⟩ | ⟨g, cap, cur, e, _⟩
  · exact ⟨none, 0, by rw [e, hz]⟩
  · exact ⟨_, cap, e⟩
theorem OwnB.below (h : OwnB B base w L v) (hb : Below w.heap.size w w') : OwnB B base w' L v := by
  obtain ⟨h1, ok, h2, h3⟩ := h
  have hl := h1.lt
  refine ⟨⟨h1.1, ?_⟩, ok, fun b hk => ⟨(h2 b hk).1, Nat.lt_of_lt_of_le (h2 b hk).2.1 hb.size, (h2 b hk).2.2⟩, fun x hx => ⟨(h3 x hx).1.frame fun b o hk => hb.cell (p := ⟨b, o, none⟩) (h2 b hk).2.1, (h3 x hx).2⟩⟩
  rcases h1.2 with h | ⟨g, cap, cur, e1, e2, e3, e4⟩
  · exact Or.inl h
  · exact Or.inr ⟨g, cap, cur, e1, e2, (hb.block g (hl g (by rw [e1]; rfl)).2).trans e3, e4⟩
theorem OwnB.far (h : OwnB B base w L v) {p : Addr} (hp : p.block < base) (hp2 : B ≤ p.block) (u : Value) : OwnB B base (w.setCell p u) L v := by
  obtain ⟨h1, ok, h2, h3⟩ := h
  refine ⟨ownsRow_setCell_below h1 hp u, ok, fun b hk => ⟨(h2 b hk).1, by simpa using (h2 b hk).2.1, (h2 b hk).2.2⟩, fun x hx => ⟨(h3 x hx).1.frame fun b o hk => ?_, (h3 x hx).2⟩⟩
  exact World.cell?_of_block (w := w) (a := ⟨b, o, none⟩) (Below.heap_setCell _ _ _ _ (show b ≠ p.block by have := (h2 b hk).1; omega))
theorem OwnB.add {w2 w3 : World} {o : Obj} {lo g cap : Nat} {t : Tm} {v1 : Value} (h : OwnB B base w2 L v) (hB : B ≤ base) (hBs : B ≤ w2.heap.size) (hs : SlIn (fun b => b < B ∨ (lo ≤ b ∧ b < w2.heap.size)) w2 t.args v1) (hn : t.nm.size ≤ maxLen) (hlo : base ≤ lo) (hv : ∀ k, v.ownBlock = some k → k < lo)
    (hown : w3.ownsRow base 24 2 (.slice (some ⟨g, 0, none⟩) (L.length + 1) cap) (L.length + 1) (flatL L ++ [.string t.nm, v1])) (hgrow : (w2.alloc o).grownBy w3 v.ownBlock) (hat : v.ownBlock = some g ∨ g = w2.heap.size + 1) :
    OwnB B base w3 (L ++ [(t, v1)]) (.slice (some ⟨g, 0, none⟩) (L.length + 1) cap) := by
  obtain ⟨h1, ok, h2, h3⟩ := h
  have hsz : w2.heap.size + 1 ≤ w3.heap.size := by have := hgrow.size; simpa using this
  have fr : ∀ b o, b < w2.heap.size → v.ownBlock ≠ some b → w3.cell? ⟨b, o, none⟩ = w2.cell? ⟨b, o, none⟩ := fun b o hb hne => by
    refine World.cell?_of_block (w := w2) (a := ⟨b, o, none⟩) ?_
    exact (hgrow.block b (by simp; omega) (fun e => hne e.symm)).trans (Below.heap_alloc _ _ _ hb)
  refine ⟨by rw [List.length_append, flatL_snoc]; exact hown, fun b => ok b ∨ (b < B ∨ (lo ≤ b ∧ b < w2.heap.size)), fun b hk => ?_, fun x hx => ?_⟩
  · rcases hk with hk | hk
    · obtain ⟨a1, a2, a3⟩ := h2 b hk
      refine ⟨a1, by omega, ?_⟩
      intro e
      have e' : g = b := by simpa [Value.ownBlock] using e
      rcases hat with h | h
      · exact a3 (by rw [h, e'])
      · omega
    · refine ⟨by omega, by omega, ?_⟩
      intro e
      have e' : g = b := by simpa [Value.ownBlock] using e
      rcases hat with h | h
      · have := hv g h; have := (h1.lt g h).1; omega
      · omega
  · rcases List.mem_append.1 hx with hx | hx
    · refine ⟨((h3 x hx).1.frame fun b o hk => fr b o (h2 b hk).2.1 (h2 b hk).2.2).weaken fun b hk => Or.inl hk, (h3 x hx).2⟩
    · obtain rfl := List.mem_singleton.1 hx
      refine ⟨(hs.frame fun b o hk => fr b o (by omega) (fun e => by have := hv b e; have := (h1.lt b e).1; omega)).weaken fun b hk => Or.inr hk, hn⟩
theorem OwnB.slin (h : OwnB B base w L v) : SlIn (fun b => b < B ∨ (base ≤ b ∧ b < w.heap.size)) w (L.map (·.1)) v := by
  obtain ⟨h1, ok, h2, h3⟩ := h
  have hl := h1.lt
  have key : ∀ (i : Nat) (t : Tm), (L.map (·.1))[i]? = some t → ∃ x : Tm × Value, L[i]? = some x ∧ x.1 = t := by
    intro i t ht
    rw [List.getElem?_map] at ht
    obtain ⟨x, a, b⟩ := Option.map_eq_some_iff.1 ht
    exact ⟨x, a, b⟩
  rcases h1.2 with ⟨rfl, hz⟩ | ⟨g, cap, cur, rfl, e2, e3, e4, e5, e6, e7⟩
  · have : L = [] := List.eq_nil_of_length_eq_zero hz
    subst this
    exact SlIn.none _ _
  · have hm : (L.map (·.1)).length = L.length := by simp
    rw [← hm]
    refine .mk _ cap _ (fun i => (L.getD i (default, undef)).2) g 0 (fun _ => ⟨rfl, Or.inr (hl g rfl)⟩) (fun h => by cases h) (by rw [hm]; exact e4) e5 (fun i t ht => ?_) (fun i t ht => ?_)
    · obtain ⟨x, hx, rfl⟩ := key i t ht
      have hi : i < L.length := (List.getElem?_eq_some_iff.1 hx).1
      obtain ⟨f1, f2⟩ := flatL_get L i x hx
      rw [Nat.zero_add]
      exact ⟨(h1.cellAt _ (by omega)).trans f1, by rw [h1.cellAt _ (by omega), f2]; simp [List.getD, hx], (h3 x (List.mem_of_getElem? hx)).2⟩
    · obtain ⟨x, hx, rfl⟩ := key i t ht
      have := (h3 x (List.mem_of_getElem? hx)).1.weaken fun b hk => (show b < B ∨ (base ≤ b ∧ b < w.heap.size) from by have h1 := (h2 b hk).1; have h3 := (h2 b hk).2.1; omega)
      simpa [List.getD, hx] using this
end
theorem look_first : ∀ {s : List Bd} {v : ByteArray} {k : Nat} {y : Bd}, (∀ j x, j < k → s[j]? = some x → eqB x.1 v = false) → s[k]? = some y → eqB y.1 v = true → lookS s v = some y.2
  | [], _, _, _, _, h, _ => by simp at h
  | a :: s, v, 0, y, _, h, e => by
    simp at h
    subst h
    simp [lookS, e]
  | a :: s, v, k + 1, y, h0, h, e => by
    have ha := h0 0 a (by omega) rfl
    have := look_first (s := s) (v := v) (k := k) (y := y) (fun j x hj hx => h0 (j + 1) x (by omega) (by simpa using hx)) (by simpa using h) e
    unfold lookS at this ⊢
    rw [List.find?_cons, ha]
    exact this
theorem look_nothing {s : List Bd} {v : ByteArray} (h : ∀ j x, j < s.length → s[j]? = some x → eqB x.1 v = false) : lookS s v = none := by
  unfold lookS
  rw [List.find?_eq_none.2 (fun y hy => by
    obtain ⟨j, hj⟩ := List.mem_iff_getElem?.1 hy
    have := h j y (List.getElem?_eq_some_iff.1 hj).1 hj
    simp [this])]
  rfl
/-- What the reference's Lookup leaves. -/
def RLkR (B : Nat) (o : Option Tm) (w : World) (e : Ending) (w' : World) : Prop :=
  ∃ (u : Tm) (p : Option Addr) (c : Nat) (f : Bool), e = .returned (.tuple #[.agg #[.string u.nm, .slice p u.args.length c], .bool f]) ∧ ((o = some u ∧ f = true) ∨ (o = none ∧ u = .mk ⟨#[]⟩ [] ∧ f = false)) ∧
    SlIn (· < B) w' u.args (.slice p u.args.length c) ∧ u.nm.size ≤ maxLen ∧ Below w.heap.size w w'
set_option maxRecDepth 100000 in
set_option maxHeartbeats 3200000 in
theorem rlookup_any (s : List Bd) (v : ByteArray) (B : Nat) (w : World) (sv : Value) (hB : B ≤ w.heap.size) (h : SIn (· < B) w s sv) :
    Calls Tryz.prog 118 #[sv, .string v] w (RLkR B (lookS s v) w) := by
  obtain ⟨W1, hW1⟩ : ∃ W1, W1 = w.alloc (.cells #[.string ⟨#[]⟩, .slice none 0 0] 24) := ⟨_, rfl⟩
  have G1 : Gr w W1 := by rw [hW1]; exact Gr.alloc _ _
  have H1 : Hid (Has W1 w.heap.size #[.string ⟨#[]⟩, .slice none 0 0]) := Lib.hid (by rw [hW1]; exact Has.new _ _ _)
  have hz1 : w.heap.size + 1 ≤ W1.heap.size := by rw [hW1]; simp
  obtain ⟨p, c, rfl, hc, hm, hR⟩ := SIn.row h
  have hlm : s.length ≤ maxLen := Nat.le_trans hc hm
  unfold maxLen at hlm
  have HR := Lib.hid (hR.gr G1 hB)
  have HB := Lib.hid (Nat.le_trans hB G1.size)
  have HB0 := Lib.hid hB
  have GG := Lib.hid G1
  have LF := Lib.hid (fun k y h1 h2 h3 => look_first (s := s) (v := v) (k := k) (y := y) h1 h2 h3)
  have LN := Lib.hid (fun h => look_nothing (s := s) (v := v) h)
  generalize lookS s v = o9 at *
  generalize hln : s.length = n at *
  have HN := Lib.hid hln
  obtain ⟨y1, y2, y3, y4, y5⟩ := H1.out.two
  clear h hR hB hc hm G1 hln
  unfold RLkR
  go_enter Tryz.func118, Tryz.ntmps118
  go_upto_region 1 with fail
  rw [← hW1]
  clear hW1
  go_wp2_with fail
  go_loopw [6] (fun i wr => ∃ k : Nat, k ≤ n ∧ i = .int .i64 k ∧ Hid (∀ j x, j < k → s[j]? = some x → eqB x.1 v = false) ∧ wr = W1) (fun i _ => n - (intOf i).toNat)
  case atStart => exact ⟨0, Nat.zero_le _, rfl, Lib.hid (fun j x h => absurd h (Nat.not_lt_zero _)), rfl⟩
  case round =>
    obtain ⟨k, hk, rfl, hA, rfl⟩ := hrel
    by_cases hlt : k < n
    · obtain ⟨t, b, o, q, d, ht, rfl, hb, c1, c2, c3, hs, hts, htv⟩ := HR.out k (by rw [HN.out]; exact hlt)
      obtain ⟨z, hz⟩ : ∃ z, (t.1.toList == v.toList) = z := ⟨_, rfl⟩
      have HZ : Hid (eqB t.1 v = z) := Lib.hid (by unfold eqB; rw [← hz, ByteArray.toList_eq, ByteArray.toList_eq])
      have HT := Lib.hid ht
      have NX : Hid (z = false → ∀ j x, j < k + 1 → s[j]? = some x → eqB x.1 v = false) := Lib.hid (fun hz0 j x hj hx => by
        by_cases e : j = k
        · subst e; rw [HT.out] at hx; cases hx; rw [HZ.out, hz0]
        · exact hA.out j x (by omega) hx)
      have HF : Hid (z = true → o9 = some t.2) := Lib.hid (fun h => LF.out k t hA.out HT.out (HZ.out.trans h))
      have HS := Lib.hid hs
      have HTS := Lib.hid hts
      have hbl : b < w.heap.size := Nat.lt_of_lt_of_le hb HB0.out
      clear ht hs hts htv hA
      generalize t.1 = tv at *
      generalize t.2 = u at *
      cases z
      · go_wp2_with fail
        go_roundw
        case rel => exact ⟨k + 1, by omega, by go_num, Lib.hid (NX.out rfl), trivial⟩
        case measure => simp [intOf]; omega
      · have FO := Lib.hid (HF.out rfl)
        have r1 := H1.out.put0 (.string u.nm) (.slice q u.args.length d)
        have r2 := H1.out.put1 (.string u.nm) (.slice q u.args.length d)
        have S5 := Lib.hid (HS.out.frame (w' := (wr.setCell ⟨w.heap.size, 0, none⟩ (.string u.nm)).setCell ⟨w.heap.size, 1, none⟩ (.slice q u.args.length d)) (fun b o hb => by
          have := HB0.out
          rw [cell_far (by show b ≠ w.heap.size; omega), cell_far (by show b ≠ w.heap.size; omega)]))
        have D5 := Lib.hid ((GG.out.1.setCell (p := ⟨w.heap.size, 0, none⟩) (by simp) (.string u.nm)).setCell (p := ⟨w.heap.size, 1, none⟩) (by simp) (.slice q u.args.length d))
        clear HF NX LF LN HS
        go_wp2_with fail
        refine bodyPost_ret (v := .tuple #[.agg #[.string u.nm, .slice q u.args.length d], .bool true]) (by simp [results, Tryz.results118, go_sem, r1, r2]) rfl ?_
        exact ⟨u, q, d, true, rfl, Or.inl ⟨FO.out, rfl⟩, S5.out, HTS.out, D5.out⟩
    · obtain rfl : k = n := by omega
      have FO := Lib.hid (LN.out (fun j x hj hx => hA.out j x hj hx))
      have r1 := H1.out.put0 (.string ⟨#[]⟩) (.slice none 0 0)
      have r2 := H1.out.put1 (.string ⟨#[]⟩) (.slice none 0 0)
      clear LF LN hA
      go_wp2_with fail
      refine bodyPost_ret (v := .tuple #[.agg #[.string ⟨#[]⟩, .slice none 0 0], .bool false]) (by simp [results, Tryz.results118, go_sem, r1, r2]) rfl ?_
      exact ⟨.mk ⟨#[]⟩ [], none, 0, false, rfl, Or.inr ⟨FO.out, rfl, rfl⟩, SlIn.none _ _, by show (0 : Nat) ≤ maxLen; exact Nat.zero_le _, ((GG.out.1.setCell (by simp) _).setCell (by simp) _)⟩
/-- A variable: no arguments and a variable's name. -/
def isV (t : Tm) : Bool := t.args.isEmpty && varB t.nm
set_option maxRecDepth 100000 in
theorem rvar_t (t : Tm) (p : Option Addr) (c : Nat) (w : World) (hn : t.nm.size ≤ maxLen) :
    Calls Tryz.prog 117 #[.agg #[.string t.nm, .slice p t.args.length c]] w fun e w' => e = .returned (.bool (isV t)) ∧ Gr w w' := by
  have KV := Lib.hid (fun w' => TermC.rvar_any t.nm w' hn)
  have vb_ : Hid (varL t.nm.data.toList = varB t.nm) := rfl
  rw [vb_.out] at KV
  have E : isV t = (t.args.isEmpty && varB t.nm) := rfl
  obtain ⟨n, l⟩ := t
  dsimp only [Tm.nm, Tm.args] at *
  generalize isV (.mk n l) = R at *
  generalize varB n = vb at *
  cases l with
  | nil =>
    simp only [List.isEmpty_nil, Bool.true_and] at E
    subst E
    go_enter Tryz.func117, Tryz.ntmps117
    go_wp2_with fail
    refine (KV.out _).mono ?_
    rintro e w' ⟨rfl, rfl⟩
    go_wp2_with fail
    go_ret
    exact ⟨rfl, Gr.alloc _ _⟩
  | cons a l =>
    simp only [List.isEmpty_cons, Bool.false_and] at E
    subst E
    have h0 : ((((a :: l).length : Nat) : Int) == 0) = false := by rw [beq_eq_false_iff_ne]; simp; omega
    generalize (a :: l).length = m at *
    go_enter Tryz.func117, Tryz.ntmps117
    go_wp2_with fail
    go_ret
    exact ⟨rfl, Gr.alloc _ _⟩
end UniG
end Go.Proofs.YtikkaiiinkeobaaGreatDoor
/- Matching as plain functions, of the code (with the limit of bindings) and of the reference; where they agree. No conditions. -/
namespace Go.Proofs.YtikkaiiinkeobaaGreatDoor
open Go
namespace UniO
open LexM TermM UniM UniA UniC UniE UniG
def putS (b : Bd) : List Bd → List Bd
  | [] => [b]
  | x :: r => if ltB b.1 x.1 then b :: x :: r else x :: putS b r
def bindP (lim : Bool) (s : List Bd) (v : ByteArray) (t : Tm) : Option (List Bd) :=
  match lookS s v with
  | some u => if cmpT u t = 0 then some s else none
  | none => if (lim && decide (s.length = 64)) = true then none else some (putS (v, t) s)
mutual
def extP (lim : Bool) : Tm → Tm → List Bd → Option (List Bd)
  | .mk n l, t, s => if isV (.mk n l) then bindP lim s n t else if eqB n t.nm && decide (l.length = t.args.length) then extL lim l t.args s else none
def extL (lim : Bool) : List Tm → List Tm → List Bd → Option (List Bd)
  | [], _, s => some s
  | _ :: _, [], _ => none
  | p :: l, t :: r, s => match extP lim p t s with
    | some s' => extL lim l r s'
    | none => none
end
def matchP (p t : Tm) (s : List Bd) : Option (List Bd) := if vldS s && validT true 4 t then extP true p t s else none
theorem put_len (b : Bd) : ∀ s, (putS b s).length = s.length + 1
  | [] => rfl
  | x :: r => by
    unfold putS
    split
    · rfl
    · simp [put_len b r]
theorem put_mem {b y : Bd} : ∀ {s}, y ∈ putS b s ↔ y = b ∨ y ∈ s
  | [] => by simp [putS]
  | x :: r => by
    unfold putS
    split
    · simp
    · simp only [List.mem_cons, put_mem (s := r)]
      constructor
      · rintro (h | h | h) <;> simp [h]
      · rintro (h | h | h) <;> simp [h]
theorem lex_lt {a b : ByteArray} : ltB a b = true ↔ 0 < lexB b.data.toList a.data.toList := by
  rw [lt_lex]
  have := lex_neg a.data.toList b.data.toList
  omega
theorem srt_tail {x : Bd} {r : List Bd} (h : Srt (x :: r)) : Srt r := fun i j a b hij ha hb => h (i + 1) (j + 1) a b (by omega) (by simpa using ha) (by simpa using hb)
theorem srt_head {x : Bd} {r : List Bd} (h : Srt (x :: r)) {y : Bd} (hy : y ∈ r) : lexB x.1.data.toList y.1.data.toList < 0 := by
  obtain ⟨j, hj⟩ := List.mem_iff_getElem?.1 hy
  exact h 0 (j + 1) x y (by omega) rfl (by simpa using hj)
theorem srt_cons {x : Bd} {r : List Bd} (h : Srt r) (hx : ∀ y ∈ r, lexB x.1.data.toList y.1.data.toList < 0) : Srt (x :: r) := by
  intro i j a b hij ha hb
  cases j with
  | zero => omega
  | succ j =>
    cases i with
    | zero =>
      simp at ha
      subst ha
      exact hx b (List.mem_of_getElem? (by simpa using hb))
    | succ i => exact h i j a b (by omega) (by simpa using ha) (by simpa using hb)
theorem look_cons {x : Bd} {r : List Bd} {v : ByteArray} (h : lookS (x :: r) v = none) : lexB x.1.data.toList v.data.toList ≠ 0 ∧ lookS r v = none := by
  unfold lookS at h ⊢
  rw [List.find?_cons] at h
  cases he : eqB x.1 v with
  | true => simp [he] at h
  | false =>
    refine ⟨fun h0 => ?_, by simpa [he] using h⟩
    rw [eq_lex.2 h0] at he
    cases he
theorem put_srt (v : ByteArray) (t : Tm) : ∀ s, Srt s → lookS s v = none → Srt (putS (v, t) s)
  | [], _, _ => by
    intro i j a b hij ha hb
    have hl := (List.getElem?_eq_some_iff.1 hb).1
    simp [putS] at hl
    omega
  | x :: r, hS, h => by
    obtain ⟨h0, h1⟩ := look_cons h
    unfold putS
    split
    · rename_i hlt
      rw [lt_lex] at hlt
      refine srt_cons hS fun y hy => ?_
      rcases List.mem_cons.1 hy with rfl | hy
      · exact hlt
      · have a1 := srt_head hS hy
        exact (tri_lex v.data.toList x.1.data.toList y.1.data.toList).2.1 hlt (by omega)
    · rename_i hlt
      rw [lt_lex] at hlt
      refine srt_cons (put_srt v t r (srt_tail hS) h1) fun y hy => ?_
      rcases put_mem.1 hy with rfl | hy
      · have a1 := lex_neg x.1.data.toList v.data.toList
        dsimp only at hlt
        show lexB x.1.data.toList v.data.toList < 0
        omega
      · exact srt_head hS hy
/-- Where binary search ends, the binding is put. -/
theorem put_at (v : ByteArray) (t : Tm) : ∀ (s : List Bd) (i : Nat), i ≤ s.length → (∀ (j : Nat) (y : Bd), j < i → s[j]? = some y → lexB y.1.data.toList v.data.toList < 0) → (∀ (j : Nat) (y : Bd), i ≤ j → s[j]? = some y → 0 ≤ lexB y.1.data.toList v.data.toList) → lookS s v = none → s.take i ++ (v, t) :: s.drop i = putS (v, t) s
  | [], i, hi, _, _, _ => by
    obtain rfl : i = 0 := by simpa using hi
    rfl
  | x :: r, 0, _, _, h2, h => by
    obtain ⟨h0, _⟩ := look_cons h
    have a := h2 0 x (Nat.le_refl _) rfl
    have : ltB v x.1 = true := lex_lt.2 (by omega)
    simp [putS, this]
  | x :: r, i + 1, hi, h1, h2, h => by
    obtain ⟨h0, hr⟩ := look_cons h
    have a := h1 0 x (by omega) rfl
    have hf : ltB v x.1 = false := by
      cases hc : ltB v x.1 with
      | false => rfl
      | true => have := lex_lt.1 hc; omega
    have ih := put_at v t r i (by simpa using hi) (fun j y hj hy => h1 (j + 1) y (by omega) (by simpa using hy)) (fun j y hj hy => h2 (j + 1) y (by omega) (by simpa using hy)) hr
    unfold putS
    simp only [hf, Bool.false_eq_true, if_false, List.take_succ_cons, List.drop_succ_cons, List.cons_append, ih]
/-- What holds of what is extended. -/
theorem bind_srt {lim : Bool} {s s' : List Bd} {v : ByteArray} {t : Tm} (hS : Srt s) (h : bindP lim s v t = some s') : Srt s' ∧ s.length ≤ s'.length ∧ s'.length ≤ s.length + 1 ∧ (lim = true → s.length ≤ 64 → s'.length ≤ 64) := by
  unfold bindP at h
  split at h
  · split at h
    · cases h; exact ⟨hS, Nat.le_refl _, by omega, fun _ h => h⟩
    · cases h
  · rename_i hl
    split at h
    · cases h
    · rename_i hc
      cases h
      refine ⟨put_srt v t s hS hl, by rw [put_len]; omega, by rw [put_len]; omega, fun e hs => ?_⟩
      subst e
      have : ¬ s.length = 64 := by simpa using hc
      rw [put_len]
      omega
theorem bind_lim {s s' : List Bd} {v : ByteArray} {t : Tm} (h : bindP false s v t = some s') : bindP true s v t = if s.length ≤ 64 ∧ 64 < s'.length then none else some s' := by
  unfold bindP at h ⊢
  split at h
  · rename_i u hu
    split at h
    · cases h
      have : ¬ (s.length ≤ 64 ∧ 64 < s.length) := by omega
      simp_all
    · cases h
  · simp only [Bool.false_and, Bool.false_eq_true, if_false, Option.some.injEq] at h
    subst h
    rw [put_len]
    by_cases hc : s.length = 64
    · rw [if_pos (by simp [hc]), if_pos (by omega)]
    · rw [if_neg (by simp [hc])]
      rw [if_neg (by omega)]
theorem ext_list {lim : Bool} {l r : List Tm} {k : Nat} {p t : Tm} (hp : l[k]? = some p) (ht : r[k]? = some t) (s : List Bd) : extL lim (l.drop k) (r.drop k) s = match extP lim p t s with
    | some s' => extL lim (l.drop (k + 1)) (r.drop (k + 1)) s'
    | none => none := by
  obtain ⟨h1, rfl⟩ := List.getElem?_eq_some_iff.1 hp
  obtain ⟨h2, rfl⟩ := List.getElem?_eq_some_iff.1 ht
  rw [List.drop_eq_getElem_cons h1, List.drop_eq_getElem_cons h2]
  rfl
/-- What an extension keeps. -/
def Keeps (lim : Bool) (n : Nat) (s s' : List Bd) : Prop := Srt s' ∧ s.length ≤ s'.length ∧ s'.length ≤ s.length + n ∧ (lim = true → s.length ≤ 64 → s'.length ≤ 64)
theorem ext_keeps (lim : Bool) (p : Tm) : ∀ (t : Tm) (s s' : List Bd), Srt s → extP lim p t s = some s' → Keeps lim (sizeT p) s s' := by
  induction p using Tm.ind with
  | h n l ih =>
    intro t s s' hS h
    unfold extP at h
    split at h
    · obtain ⟨a, b, c, d⟩ := bind_srt hS h
      exact ⟨a, b, by simp only [sizeT]; omega, d⟩
    · split at h
      · have key : ∀ (l : List Tm), (∀ x ∈ l, ∀ (t : Tm) (s s' : List Bd), Srt s → extP lim x t s = some s' → Keeps lim (sizeT x) s s') → ∀ (r : List Tm) (s s' : List Bd), Srt s → extL lim l r s = some s' → Keeps lim (sizeL l) s s' := by
          intro l
          induction l with
          | nil =>
            intro _ r s s' hS h
            unfold extL at h
            cases h
            exact ⟨hS, Nat.le_refl _, by omega, fun _ h => h⟩
          | cons a l ihl =>
            intro hx r s s' hS h
            cases r with
            | nil => unfold extL at h; cases h
            | cons t r =>
              unfold extL at h
              split at h
              · rename_i s1 h1
                obtain ⟨a1, a2, a3, a4⟩ := hx a (by simp) t s s1 hS h1
                obtain ⟨b1, b2, b3, b4⟩ := ihl (fun x hx' => hx x (by simp [hx'])) r s1 s' a1 h
                exact ⟨b1, by omega, by simp only [sizeL]; omega, fun e h => b4 e (a4 e h)⟩
              · cases h
        obtain ⟨a, b, c, d⟩ := key l ih t.args s s' hS h
        exact ⟨a, b, by simp only [sizeT]; omega, d⟩
      · cases h
end UniO
end Go.Proofs.YtikkaiiinkeobaaGreatDoor
/- The code's variable, sameHead, bind and extend. Conditions: the substitution's names ascend and are at most 64. -/
namespace Go.Proofs.YtikkaiiinkeobaaGreatDoor
open Go Go.RowKit
namespace UniL
open LexM TermM TermI Kit TermN TermU UniK UniM UniA UniC UniD UniE UniG UniJ UniO
theorem sin_clip {ok : Nat → Prop} {w : World} {s : List Bd} {p : Option Addr} {c : Nat} (h : SIn ok w s (.slice p s.length c)) : SIn ok w s (.slice p s.length s.length) := by
  obtain ⟨L, rfl, p', c', e, h1, h2, h3, h4⟩ := h
  have hll : (L.map (·.1)).length = L.length := by simp
  rw [hll] at e ⊢
  cases e
  exact ⟨L, rfl, p, L.length, rfl, Nat.le_refl _, Nat.le_trans h1 h2, h3, h4⟩
/-- A substitution, or none. -/
def BndR (o : Option (List Bd)) (w : World) (e : Ending) (w' : World) : Prop :=
  ∃ (v : Value) (f : Bool), e = .returned (.tuple #[v, .bool f]) ∧ (f = true → ∃ s', o = some s' ∧ SIn (· < w'.heap.size) w' s' v) ∧ (f = false → o = none) ∧ Below w.heap.size w w'
/-- A substitution, or the nil list. -/
def MtR (o : Option (List Bd)) (w : World) (e : Ending) (w' : World) : Prop :=
  ∃ (v : Value) (f : Bool), e = .returned (.tuple #[v, .bool f]) ∧ (f = true → ∃ s', o = some s' ∧ SIn (· < w'.heap.size) w' s' v) ∧ (f = false → o = none ∧ v = .slice none 0 0) ∧ Below w.heap.size w w'
end UniL
end Go.Proofs.YtikkaiiinkeobaaGreatDoor
/- Classes of terms as plain data, with fuel; and a map of the call's own whose elements are held as they are. No conditions. -/
namespace Go.Proofs.YtikkaiiinkeobaaGreatDoor
open Go Go.RowKit Go.Maps Go.WideMaps
namespace UnmA
open LexM TermM TermI Kit TermN TermU UniM UniG TermT
abbrev Ky := List UInt8
def lookK {α : Type} (L : List (Ky × α)) (s : Ky) : Option α := (L.find? fun x => x.1 == s).map (·.2)
theorem lookK_cons {α : Type} (x : Ky × α) (L : List (Ky × α)) (s : Ky) : lookK (x :: L) s = if x.1 = s then some x.2 else lookK L s := by
  unfold lookK
  rw [List.find?_cons]
  by_cases h : x.1 = s
  · rw [if_pos h, beq_iff_eq.2 h]; rfl
  · rw [if_neg h, beq_eq_false_iff_ne.2 h]
theorem lookK_map {α β : Type} (f : α → β) (L : List (Ky × α)) (s : Ky) : lookK (L.map fun x => (x.1, f x.2)) s = (lookK L s).map f := by
  induction L with
  | nil => rfl
  | cons x L ih =>
    rw [List.map_cons, lookK_cons, lookK_cons, ih]
    by_cases h : x.1 = s
    · rw [if_pos h, if_pos h]; rfl
    · rw [if_neg h, if_neg h]
theorem lookK_mem {α : Type} {L : List (Ky × α)} {s : Ky} {x : α} (h : lookK L s = some x) : (s, x) ∈ L := by
  induction L with
  | nil => cases h
  | cons y L ih =>
    rw [lookK_cons] at h
    by_cases c : y.1 = s
    · rw [if_pos c] at h
      cases h
      rw [← c]
      exact List.mem_cons_self
    · rw [if_neg c] at h
      exact List.mem_cons_of_mem _ (ih h)
/-- What a map reads as, the latest entry first. -/
def DataOf (L : List (Ky × Value)) : DataW Value := L.foldr (fun x D => D.put (.string x.1) (.held x.2)) (.map [])
def heldE : Value → Option (DataW Value × List MemPlace) := fun v => some (.held v, [])
theorem data_map : ∀ L, IsMap (DataOf L)
  | [] => isMap_empty
  | _ :: L => (data_map L).put _ _
theorem has_data (s : Ky) : ∀ L, Maps.has (DataOf L) (.string s) = (lookK L s).isSome
  | [] => rfl
  | x :: L => by
    rw [lookK_cons]
    by_cases h : x.1 = s
    · rw [if_pos h, ← h]
      exact has_put_same (data_map L) (show WideAt.IsKeyLit (.string x.1) from trivial) _
    · rw [if_neg h, ← has_data s L]
      exact has_put_other (by intro e; injection e with e; exact h e.symm) _
theorem at_data (s : Ky) (z : Value) : ∀ L, (DataOf L).atKey (.string s) (.held z) = .held ((lookK L s).getD z)
  | [] => rfl
  | x :: L => by
    rw [lookK_cons]
    by_cases h : x.1 = s
    · rw [if_pos h, ← h]
      exact atKey_put_same (data_map L) (show WideAt.IsKeyLit (.string x.1) from trivial) _ _
    · rw [if_neg h, ← at_data s z L]
      exact atKey_put_other (by intro e; injection e with e; exact h e.symm) _ _
set_option maxRecDepth 100000 in
theorem look_held {w : World} {b n : Nat} {L : List (Ky × Value)} {t e : TypeId} {z : Value} (h : w.ownsMap Tryz.prog 9 heldE b n (DataOf L)) (ht : Tryz.prog.underlying t = some (.map 9 e)) (hz : (zeroValue e).run Tryz.prog w = .ok z w) (s : ByteArray) (hs : s.size ≤ maxLen) :
    (Instr.lookup t (.map (some b)) (.string s) true).run Tryz.prog w = .ok (.tuple #[(lookK L s.data.toList).getD z, .bool (lookK L s.data.toList).isSome]) w := by
  obtain ⟨v, ps, hrun, hv⟩ := h.look_ok TermE.law ht hz (show heldE z = some (.held z, []) from rfl) (keyOf_string_mk Tryz.underlying9 hs)
  rw [at_data] at hv
  rw [has_data] at hrun
  unfold heldE at hv
  injection hv with hv
  injection hv with hv _
  injection hv with hv
  rw [hrun, hv]
/-! ### The plain functions -/
abbrev Cls := List (Ky × Tm)
def leadP (D : Cls) : Nat → Tm → Option Tm
  | 0, _ => none
  | n + 1, t => match lookK D (textT t) with
    | none => some t
    | some u => leadP D n u
def ledB (a b : Tm) : Bool := isV b && (!isV a || ltB a.nm b.nm)
def joinA (f : Cls → Tm → Tm → Option (Cls × Bool)) : Cls → List Tm → List Tm → Option (Cls × Bool)
  | D, x :: xs, y :: ys => match f D x y with
    | none => none
    | some (D', false) => some (D', false)
    | some (D', true) => joinA f D' xs ys
  | D, _, _ => some (D, true)
def headE (x y : Tm) : Bool := eqB x.nm y.nm && decide (x.args.length = y.args.length)
def joinB (f : Cls → Tm → Tm → Option (Cls × Bool)) (D : Cls) (x y : Tm) : Option (Cls × Bool) :=
  if isV y = true then some ((textT y, x) :: D, true) else if headE x y = true then joinA f ((textT y, x) :: D) x.args y.args else some ((textT y, x) :: D, false)
def joinP : Nat → Cls → Tm → Tm → Option (Cls × Bool)
  | 0, _, _, _ => none
  | n + 1, D, a, b => (leadP D n a).bind fun a => (leadP D n b).bind fun b =>
    if cmpT a b = 0 then some (D, true) else if ledB b a = true then joinB (joinP n) D b a else joinB (joinP n) D a b
def mapO {α β : Type} (f : α → Option β) : List α → Option (List β)
  | [] => some []
  | x :: l => (f x).bind fun y => (mapO f l).map fun r => y :: r
def resP (D : Cls) (n : Nat) : Nat → Tm → Option Tm
  | 0, t => (leadP D n t).map fun l => .mk l.nm []
  | d + 1, t => (leadP D n t).bind fun l => (mapO (resP D n d) l.args).map fun r => .mk l.nm r
def solP (D : Cls) (n : Nat) : List ByteArray → Option (List Bd)
  | [] => some []
  | v :: l => (resP D n 4 (.mk v [])).bind fun t => (solP D n l).map fun s => if eqB t.nm v = true then s else (v, t) :: s
/-- Is it a term whose text can be had? -/
def Ok (t : Tm) : Prop := t.nm.size ≤ maxLen ∧ (textT t).length ≤ 1000000 ∧ sizeT t ≤ 1000000
theorem Ok.arg {t x : Tm} (h : Ok t) (hx : x ∈ t.args) (hn : x.nm.size ≤ maxLen) : Ok x := by
  obtain ⟨n, l⟩ := t
  obtain ⟨_, h1, h2⟩ := h
  obtain ⟨i, hi⟩ := List.mem_iff_getElem?.1 hx
  have h3 := (text_get hi).1
  have hne : l.isEmpty = false := by cases l with | nil => cases hx | cons a r => rfl
  refine ⟨hn, ?_, ?_⟩
  · simp only [Tm.args] at hi h3
    have h4 : (textT (.mk n l)).length = n.data.toList.length + (1 + (((tailT l).drop 1).length + 1)) := by
      simp [textT, hne]
      omega
    rw [List.length_drop] at h4
    omega
  · have h5 : sizeT (.mk n l) = 1 + sizeL l := by simp only [sizeT]; omega
    have h6 := UniD.size_mem hx
    simp only [Tm.args] at h6
    omega
theorem joinA_len {f : Cls → Tm → Tm → Option (Cls × Bool)} (hf : ∀ D x y D' r, f D x y = some (D', r) → D.length ≤ D'.length) : ∀ xs ys D D' r, joinA f D xs ys = some (D', r) → D.length ≤ D'.length
  | [], ys, D, D', r, h => by cases ys <;> (cases h; exact Nat.le_refl _)
  | x :: xs, [], D, D', r, h => by cases h; exact Nat.le_refl _
  | x :: xs, y :: ys, D, D', r, h => by
    unfold joinA at h
    cases he : f D x y with
    | none => rw [he] at h; cases h
    | some z =>
      obtain ⟨D1, b⟩ := z
      have h1 := hf _ _ _ _ _ he
      rw [he] at h
      cases b
      · cases h; exact h1
      · exact Nat.le_trans h1 (joinA_len hf xs ys D1 D' r h)
theorem joinB_len {f : Cls → Tm → Tm → Option (Cls × Bool)} (hf : ∀ D x y D' r, f D x y = some (D', r) → D.length ≤ D'.length) {D : Cls} {x y : Tm} {D' : Cls} {r : Bool} (h : joinB f D x y = some (D', r)) : D.length + 1 ≤ D'.length := by
  unfold joinB at h
  split at h
  · cases h; simp
  · split at h
    · have := joinA_len hf _ _ _ _ _ h
      simpa using this
    · cases h; simp
theorem joinP_len : ∀ n D a b D' r, joinP n D a b = some (D', r) → D.length ≤ D'.length
  | 0, D, a, b, D', r, h => by cases h
  | n + 1, D, a, b, D', r, h => by
    unfold joinP at h
    cases ha : leadP D n a with
    | none => rw [ha] at h; cases h
    | some x =>
      cases hb : leadP D n b with
      | none => rw [ha, hb] at h; cases h
      | some y =>
        rw [ha, hb] at h
        simp only [Option.bind_some] at h
        split at h
        · cases h; exact Nat.le_refl _
        · split at h
          · have := joinB_len (joinP_len n) h; omega
          · have := joinB_len (joinP_len n) h; omega
/-! ### In memory -/
/-- Block bm is the map of the classes; their terms lie below B. -/
def Cl (w : World) (bm B : Nat) (D : Cls) : Prop :=
  ∃ L : List (Ky × Tm × Value), D = L.map (fun x => (x.1, x.2.1)) ∧ w.ownsMap Tryz.prog 9 heldE bm D.length (DataOf (L.map fun x => (x.1, Value.agg #[.string x.2.1.nm, x.2.2]))) ∧ (∀ x ∈ L, SlIn (· < B) w x.2.1.args x.2.2 ∧ Ok x.2.1)
theorem Cl.lt {w : World} {bm B : Nat} {D : Cls} (h : Cl w bm B D) : bm < w.heap.size := by
  obtain ⟨L, _, h, _⟩ := h
  exact h.lt
theorem Cl.made (w : World) (B : Nat) : Cl (w.alloc (.map #[] 0)) w.heap.size B [] :=
  ⟨[], rfl, World.ownsMap_made _ _ _ _, fun x hx => by cases hx⟩
theorem Cl.keep {w w' : World} {bm B : Nat} {D : Cls} (h : Cl w bm B D) (hb : Below w.heap.size w w') (hB : B ≤ w.heap.size) : Cl w' bm B D := by
  have hl := h.lt
  obtain ⟨L, h1, h2, h3⟩ := h
  exact ⟨L, h1, h2.kept (row := none) ⟨hb.os, hb.tape, hb.output, hb.size, fun i hi _ => hb.block i hi⟩ (by simp), fun x hx => ⟨(h3 x hx).1.deep hb hB, (h3 x hx).2⟩⟩
/-- What a look-up answers. -/
theorem Cl.look {w : World} {bm B : Nat} {D : Cls} (h : Cl w bm B D) {t : TypeId} (ht : Tryz.prog.underlying t = some (.map 9 24)) (x : Tm) (hx : (textT x).length ≤ maxLen) :
    ∃ v, (Instr.lookup t (.map (some bm)) (.string ⟨(textT x).toArray⟩) true).run Tryz.prog w = .ok (.tuple #[v, .bool (lookK D (textT x)).isSome]) w ∧ (lookK D (textT x) = none → v = .agg #[.string ⟨#[]⟩, .slice none 0 0]) ∧ (∀ u, lookK D (textT x) = some u → ∃ uv, v = .agg #[.string u.nm, uv] ∧ SlIn (· < B) w u.args uv ∧ Ok u) := by
  obtain ⟨L, rfl, h2, h3⟩ := h
  have LK := look_held (z := .agg #[.string ⟨#[]⟩, .slice none 0 0]) h2 ht (by kernel_rfl) ⟨(textT x).toArray⟩ hx
  simp only [lookK_map (fun x : Tm × Value => Value.agg #[.string x.1.nm, x.2])] at LK
  simp only [lookK_map (fun x : Tm × Value => x.1)]
  rw [Option.isSome_map] at LK ⊢
  refine ⟨_, LK, ?_, ?_⟩
  · intro hn
    rw [Option.map_eq_none_iff] at hn
    rw [hn]
    rfl
  · intro u hu
    rw [Option.map_eq_some_iff] at hu
    obtain ⟨y, hy, rfl⟩ := hu
    rw [hy]
    exact ⟨y.2, rfl, (h3 _ (lookK_mem hy)).1, (h3 _ (lookK_mem hy)).2⟩
end UnmA
end Go.Proofs.YtikkaiiinkeobaaGreatDoor
