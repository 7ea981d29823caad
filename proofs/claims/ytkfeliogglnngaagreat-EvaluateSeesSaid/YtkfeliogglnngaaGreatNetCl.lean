/- clone.Term and clone.Terms: a term and a list of terms again, all lists in new blocks. Condition: at most a million parts. Made by gnCl.py. -/
import Derived.Test.YtkfeliogglnngaaGreatNetCp
import Derived.Test.YtkfeliogglnngaaGreatGAE
import Derived.Deep.RegionWith
import Derived.Deep.DeepCutAuto
namespace Go.Proofs.YtkfeliogglnngaaGreat
open Go Go.RowKit
namespace NetCl
open Kit LexM TermM TermI TermN TermU
def CloT (n : ByteArray) (l : List Tm) (w : World) (e : Ending) (w' : World) : Prop :=
  ∃ (p : Option Addr) (c : Nat), e = .returned (.agg #[.string n, .slice p l.length c]) ∧ SlIn (fun b => w.heap.size ≤ b ∧ b < w'.heap.size) w' l (.slice p l.length c) ∧ Below w.heap.size w w'
def CloL (l : List Tm) (w : World) (e : Ending) (w' : World) : Prop :=
  ∃ (p : Option Addr) (c : Nat), e = .returned (.slice p l.length c) ∧ SlIn (fun b => w.heap.size ≤ b ∧ b < w'.heap.size) w' l (.slice p l.length c) ∧ Below w.heap.size w w'
def ClT (t : Tm) : Prop := ∀ (B : Nat) (w : World) (sv : Value), B ≤ w.heap.size → SlIn (· < B) w t.args sv → sizeT t ≤ 1000000 → Calls Tryz.prog 44 #[.agg #[.string t.nm, sv]] w (CloT t.nm t.args w)
theorem make_t (w : World) (n : Nat) (hn : n ≤ 1000000) : ∃ w', (Instr.makeSlice 23 (.int .i64 n) (.int .i64 n)).run Tryz.prog w = .ok (.slice (some ⟨w.heap.size, 0, none⟩) n n) w' ∧ (∀ j, j < n * 2 → (w'.cell? ⟨w.heap.size, j, none⟩).isSome = true) ∧ (∀ j, w'.frozen? ⟨w.heap.size, j, none⟩ = false) ∧ Below w.heap.size w w' ∧ w.heap.size < w'.heap.size := by
  obtain ⟨i, hi, hz, hs, hb⟩ := info_parts Tryz.info28
  obtain ⟨w', h1, h2, h3⟩ := run_make_full (P := Tryz.prog) w w.heap.size 23 70 i (.agg #[.string ⟨#[]⟩, .slice none 0 0]) 2 Tryz.underlying23 hi hz hs .i64 .i64 n (by rw [hb]; omega) (by unfold maxLen; omega) (Nat.le_refl _)
  refine ⟨w', h1, fun j hj => ?_, fun j => h2.frozenAt j, (Below.refl w.heap.size w).grown h3 (Nat.le_refl _) (fun k h => by cases h), (h2.lt _ rfl).2⟩
  rw [h2.cellAt j hj, List.getElem?_eq_getElem (by rw [h2.1]; exact hj)]
  rfl
/-- A row of terms under construction. -/
structure RowD (w : World) (g m : Nat) (D : List (Tm × Value)) : Prop where
  cell : ∀ (k : Nat) (x : Tm × Value), D[k]? = some x → w.cell? ⟨g, k * 2, none⟩ = some (.string x.1.nm) ∧ w.cell? ⟨g, k * 2 + 1, none⟩ = some x.2
  all : ∀ j, j < m * 2 → (w.cell? ⟨g, j, none⟩).isSome = true
  free : ∀ j, w.frozen? ⟨g, j, none⟩ = false
  lt : g < w.heap.size
  args : ∀ x ∈ D, SlIn (fun b => g < b ∧ b < w.heap.size) w x.1.args x.2 ∧ x.1.nm.size ≤ maxLen
theorem RowD.below {w w' : World} {g m : Nat} {D : List (Tm × Value)} (h : RowD w g m D) (q : Below w.heap.size w w') : RowD w' g m D :=
  ⟨fun k x hx => ⟨(q.cell (p := ⟨g, _, none⟩) h.lt).trans (h.cell k x hx).1, (q.cell (p := ⟨g, _, none⟩) h.lt).trans (h.cell k x hx).2⟩, fun j hj => by rw [q.cell (p := ⟨g, j, none⟩) h.lt]; exact h.all j hj, fun j => (q.frozen (p := ⟨g, j, none⟩) h.lt).trans (h.free j), Nat.lt_of_lt_of_le h.lt q.size, fun x hx => ⟨((h.args x hx).1.frame fun b o (hb : g < b ∧ b < w.heap.size) => q.cell (p := ⟨b, o, none⟩) hb.2).weaken fun b hb => ⟨hb.1, Nat.lt_of_lt_of_le hb.2 q.size⟩, (h.args x hx).2⟩⟩
theorem RowD.put {w : World} {g m : Nat} {D : List (Tm × Value)} {t : Tm} {a : Value} (h : RowD w g m D) (hk : D.length < m) (ha : SlIn (fun b => g < b ∧ b < w.heap.size) w t.args a) (hn : t.nm.size ≤ maxLen) :
    RowD ((w.setCell ⟨g, D.length * 2, none⟩ (.string t.nm)).setCell ⟨g, D.length * 2 + 1, none⟩ a) g m (D ++ [(t, a)]) := by
  have oth : ∀ (b o : Nat), b ≠ g ∨ (o ≠ D.length * 2 ∧ o ≠ D.length * 2 + 1) → ((w.setCell ⟨g, D.length * 2, none⟩ (.string t.nm)).setCell ⟨g, D.length * 2 + 1, none⟩ a).cell? ⟨b, o, none⟩ = w.cell? ⟨b, o, none⟩ := fun b o hbo => by
    rw [World.cell?_setCell_other _ _ _ _ (by intro e; injection e with e1 e2; omega), World.cell?_setCell_other _ _ _ _ (by intro e; injection e with e1 e2; omega)]
  obtain ⟨u0, h0⟩ := Option.isSome_iff_exists.1 (h.all (D.length * 2) (by omega))
  obtain ⟨u1, h1⟩ := Option.isSome_iff_exists.1 (h.all (D.length * 2 + 1) (by omega))
  have c0 : ((w.setCell ⟨g, D.length * 2, none⟩ (.string t.nm)).setCell ⟨g, D.length * 2 + 1, none⟩ a).cell? ⟨g, D.length * 2, none⟩ = some (.string t.nm) := by
    rw [World.cell?_setCell_other _ _ _ _ (by intro e; injection e with e1 e2; omega)]
    exact World.cell?_setCell_same _ _ _ h0
  have c1 : ((w.setCell ⟨g, D.length * 2, none⟩ (.string t.nm)).setCell ⟨g, D.length * 2 + 1, none⟩ a).cell? ⟨g, D.length * 2 + 1, none⟩ = some a := by
    have h1' : (w.setCell ⟨g, D.length * 2, none⟩ (.string t.nm)).cell? ⟨g, D.length * 2 + 1, none⟩ = some u1 := by
      rw [World.cell?_setCell_other _ _ _ _ (by intro e; injection e with e1 e2; omega)]
      exact h1
    exact World.cell?_setCell_same _ _ _ h1'
  have sz : ((w.setCell ⟨g, D.length * 2, none⟩ (.string t.nm)).setCell ⟨g, D.length * 2 + 1, none⟩ a).heap.size = w.heap.size := by simp [World.setCell]
  refine ⟨fun k x hx => ?_, fun j hj => ?_, fun j => ?_, by rw [sz]; exact h.lt, fun x hx => ?_⟩
  · by_cases e : k = D.length
    · subst e
      rw [List.getElem?_append_right (Nat.le_refl _), Nat.sub_self] at hx
      have := Option.some.inj hx
      subst this
      exact ⟨c0, c1⟩
    · have hk2 : k < D.length := by have := (List.getElem?_eq_some_iff.1 hx).1; simp at this; omega
      rw [List.getElem?_append_left hk2] at hx
      exact ⟨(oth _ _ (Or.inr (by omega))).trans (h.cell k x hx).1, (oth _ _ (Or.inr (by omega))).trans (h.cell k x hx).2⟩
  · by_cases e0 : j = D.length * 2
    · subst e0; rw [c0]; rfl
    · by_cases e1 : j = D.length * 2 + 1
      · subst e1; rw [c1]; rfl
      · rw [oth _ _ (Or.inr ⟨e0, e1⟩)]
        exact h.all j hj
  · rw [World.frozen?_setCell, World.frozen?_setCell]
    exact h.free j
  · have fr : ∀ {l : List Tm} {v : Value}, SlIn (fun b => g < b ∧ b < w.heap.size) w l v → SlIn (fun b => g < b ∧ b < ((w.setCell ⟨g, D.length * 2, none⟩ (.string t.nm)).setCell ⟨g, D.length * 2 + 1, none⟩ a).heap.size) ((w.setCell ⟨g, D.length * 2, none⟩ (.string t.nm)).setCell ⟨g, D.length * 2 + 1, none⟩ a) l v := fun hs => by
      rw [sz]
      exact hs.frame fun b o hb => oth b o (Or.inl (by have := hb.1; omega))
    rcases List.mem_append.1 hx with hx | hx
    · exact ⟨fr (h.args x hx).1, (h.args x hx).2⟩
    · rw [List.mem_singleton.1 hx]
      exact ⟨fr ha, hn⟩
theorem RowD.slin {w : World} {g m : Nat} {D : List (Tm × Value)} (h : RowD w g m D) (hm : D.length = m) (hb : m ≤ 1000000) : SlIn (fun b => g ≤ b ∧ b < w.heap.size) w (D.map (·.1)) (.slice (some ⟨g, 0, none⟩) m m) := by
  have key : ∀ (i : Nat) (t : Tm), (D.map (·.1))[i]? = some t → ∃ x : Tm × Value, D[i]? = some x ∧ x.1 = t := by
    intro i t ht
    rw [List.getElem?_map] at ht
    obtain ⟨x, a, b⟩ := Option.map_eq_some_iff.1 ht
    exact ⟨x, a, b⟩
  have hl : (D.map (·.1)).length = m := by rw [List.length_map, hm]
  have e : (Value.slice (some ⟨g, 0, none⟩) m m) = .slice (some ⟨g, 0, none⟩) (D.map (·.1)).length m := by rw [hl]
  rw [e]
  refine .mk _ m _ (fun i => (D.getD i (default, undef)).2) g 0 (fun _ => ⟨rfl, Nat.le_refl _, h.lt⟩) (fun h => by cases h) (by rw [hl]; exact Nat.le_refl _) (by unfold maxLen; omega) (fun i t ht => ?_) (fun i t ht => ?_)
  · obtain ⟨x, hx, rfl⟩ := key i t ht
    obtain ⟨f1, f2⟩ := h.cell i x hx
    rw [Nat.zero_add]
    exact ⟨f1, by rw [f2]; simp [List.getD, hx], (h.args x (List.mem_of_getElem? hx)).2⟩
  · obtain ⟨x, hx, rfl⟩ := key i t ht
    have := (h.args x (List.mem_of_getElem? hx)).1.weaken fun b (hk : g < b ∧ b < w.heap.size) => (⟨Nat.le_of_lt hk.1, hk.2⟩ : g ≤ b ∧ b < w.heap.size)
    simpa [List.getD, hx] using this
set_option maxRecDepth 100000 in
set_option maxHeartbeats 6400000 in
theorem terms_of (l : List Tm) (IH : ∀ t ∈ l, ClT t) (hlm : l.length ≤ 1000000) (hsz : ∀ t ∈ l, sizeT t ≤ 1000000) (B : Nat) (w : World) (v : Value) (hB : B ≤ w.heap.size) (h : SlIn (· < B) w l v) :
    Calls Tryz.prog 62 #[v] w (CloL l w) := by
  obtain ⟨p, c, rfl, hn, hc, hm, hR⟩ := h.row
  have HI := Lib.hid IH
  have HR := Lib.hid hR
  have HSZ := Lib.hid hsz
  have HB := Lib.hid hB
  have TK : Hid (∀ k t, l[k]? = some t → l.take (k + 1) = l.take k ++ [t]) := Lib.hid (fun k t h => by rw [List.take_add_one, h]; rfl)
  have NIL : Hid (l.length = 0 → CloL l w (.returned (.slice none 0 0)) w) := Lib.hid (fun e => by
    have : l = [] := List.length_eq_zero_iff.1 e
    subst this
    exact ⟨none, 0, rfl, SlIn.none _ _, Below.refl _ _⟩)
  have FIN : Hid (∀ g w', CloL l w (.returned (.slice (some ⟨g, 0, none⟩) l.length l.length)) w' ↔ CloL l w (.returned (.slice (some ⟨g, 0, none⟩) l.length l.length)) w') := Lib.hid (fun _ _ => Iff.rfl)
  have MKC : Hid (∀ (g : Nat) (w' : World) (D : List (Tm × Value)), D.map (·.1) = l → RowD w' g l.length D → w.heap.size ≤ g → Below w.heap.size w w' → CloL l w (.returned (.slice (some ⟨g, 0, none⟩) l.length l.length)) w') := Lib.hid (fun g w' D e hD hg hb => ⟨some ⟨g, 0, none⟩, l.length, rfl, by
    have := hD.slin (by rw [← e, List.length_map]) hlm
    rw [e] at this
    exact this.weaken fun b hb => ⟨Nat.le_trans hg hb.1, hb.2⟩, hb⟩)
  clear h hR IH hsz hn hc hm FIN
  generalize hgm : l.length = m at *
  have HM := Lib.hid hgm
  clear hgm
  by_cases h0 : m = 0
  · have F0 := Lib.hid (NIL.out h0)
    have i1 : (((m : Nat) : Int) == 0) = true := by simp [h0]
    clear NIL MKC
    go_enter Tryz.func62, Tryz.ntmps62
    go_wp2_with fail
    go_ret
    exact F0.out
  have i1 : (((m : Nat) : Int) == 0) = false := by simp; omega
  obtain ⟨wm, M, MC, MF, MB, ML⟩ := make_t w m hlm
  have R0 : Hid (RowD wm w.heap.size m []) := Lib.hid ⟨fun k x hx => by simp at hx, MC, MF, ML, fun x hx => by cases hx⟩
  have D0 := Lib.hid MB
  clear MC MF MB ML NIL
  generalize hg0 : w.heap.size = g0 at *
  have HG0 := Lib.hid hg0
  clear hg0
  go_enter Tryz.func62, Tryz.ntmps62
  go_wp2_with fail
  go_loopw [14] (fun i wr => ∃ (k : Nat) (D : List (Tm × Value)), k ≤ m ∧ i = .int .i64 k ∧ Hid (D.map (·.1) = l.take k) ∧ Hid (RowD wr g0 m D) ∧ Hid (Below g0 w wr)) (fun i _ => m - (intOf i).toNat)
  case atStart => exact ⟨0, [], Nat.zero_le _, rfl, Lib.hid rfl, R0, D0⟩
  case round =>
    obtain ⟨k, D, hk, rfl, hT, hC, hD⟩ := hrel
    generalize hwo : wr = wo at *
    clear hwo
    have hDl : D.length = k := by
      have := congrArg List.length hT.out
      rw [List.length_map, List.length_take, HM.out] at this
      omega
    by_cases hlt : k < m
    · obtain ⟨t, b, o, q, d, ht, rfl, hb, c1, c2, hs, hts⟩ := (Row.deep HR.out hD.out HB.out) k (by rw [HM.out]; exact hlt)
      have TT := Lib.hid (TK.out k t ht)
      have HTS := Lib.hid hts
      have hmem := List.mem_of_getElem? ht
      obtain ⟨W3, hW3⟩ : ∃ z, z = wo.alloc (.cells #[.string t.nm, .slice q t.args.length d] 70) := ⟨_, rfl⟩
      have J3 : Hid (Below wo.heap.size wo W3) := Lib.hid (by rw [hW3]; exact below_alloc _ _)
      have H3 : Has W3 wo.heap.size #[.string t.nm, .slice q t.args.length d] := by rw [hW3]; exact Has.new _ _ _
      have hzo : g0 ≤ wo.heap.size := Nat.le_of_lt hC.out.lt
      have hBo : B ≤ wo.heap.size := by have h1 := HB.out; have h2 := hD.out.size; omega
      have IT := Lib.hid (HI.out t hmem B W3 (.slice q t.args.length d) (Nat.le_trans hBo J3.out.size) (hs.frame fun b o (hb : b < B) => J3.out.cell (p := ⟨b, o, none⟩) (Nat.lt_of_lt_of_le hb hBo)) (HSZ.out t hmem))
      have R3 := Lib.hid (hC.out.below J3.out)
      have D3 : Hid (Below g0 w W3) := Lib.hid (hD.out.trans (J3.out.mono hzo))
      have hz3 : g0 ≤ W3.heap.size := Nat.le_trans hzo J3.out.size
      have y0 := H3.cell 0
      have y1 := H3.cell 1
      have j0 : (0 : Int) ≤ (k : Int) := by omega
      have j1 : (k : Int) < m := by omega
      clear hs hts ht hmem H3
      go_upto_region 7 with fail
      rw [← hW3]
      clear hW3 c1 c2
      go_wp2_with fail
      refine IT.out.mono ?_
      rintro e w5 ⟨q1, c1', rfl, s5, g5⟩
      have R5 := Lib.hid (R3.out.below g5)
      have D5 : Hid (Below g0 w w5) := Lib.hid (D3.out.trans (g5.mono hz3))
      have S5 : Hid (SlIn (fun b => g0 < b ∧ b < w5.heap.size) w5 t.args (.slice q1 t.args.length c1')) := Lib.hid (s5.weaken fun b hb => ⟨Nat.lt_of_lt_of_le R3.out.lt hb.1, hb.2⟩)
      obtain ⟨u0, d0⟩ := Option.isSome_iff_exists.1 (R5.out.all (k * 2) (by omega))
      obtain ⟨u1, d1⟩ := Option.isSome_iff_exists.1 (R5.out.all (k * 2 + 1) (by omega))
      have f0 := R5.out.free (k * 2)
      have f1 := R5.out.free (k * 2 + 1)
      have RN := Lib.hid (R5.out.put (by rw [hDl]; exact hlt) S5.out HTS.out)
      rw [hDl] at RN
      have DN : Hid (Below g0 w ((w5.setCell ⟨g0, k * 2, none⟩ (.string t.nm)).setCell ⟨g0, k * 2 + 1, none⟩ (.slice q1 t.args.length c1'))) := Lib.hid ((D5.out.setCell (p := ⟨g0, k * 2, none⟩) (Nat.le_refl _) _).setCell (p := ⟨g0, k * 2 + 1, none⟩) (Nat.le_refl _) _)
      have TN : Hid ((D ++ [(t, Value.slice q1 t.args.length c1')]).map (·.1) = l.take (k + 1)) := Lib.hid (by rw [List.map_append, hT.out, TT.out]; rfl)
      clear s5 g5 IT y0 y1
      go_wp2_with fail
      go_roundw
      case rel => first | exact ⟨k + 1, _, by omega, by go_num, TN, RN, DN⟩ | ((repeat (apply Exists.intro)); refine ⟨?_, rfl⟩; exact ⟨k + 1, _, by omega, by go_num, TN, RN, DN⟩)
      case measure => simp [intOf] <;> omega
    · obtain rfl : k = m := by omega
      have FF := Lib.hid (MKC.out g0 wo D (by rw [hT.out, ← HM.out, List.take_length]) hC.out (Nat.le_refl _) hD.out)
      go_wp2_with fail
      go_ret
      exact FF.out
end NetCl
end Go.Proofs.YtkfeliogglnngaaGreat
