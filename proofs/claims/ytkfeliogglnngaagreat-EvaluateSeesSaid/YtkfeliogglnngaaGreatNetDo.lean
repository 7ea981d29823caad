/- Rows of outputs that are rewritten in place; the closure of evaluate.outputs; slices.IndexFunc with it. No conditions but those that are written. Made by gnDo.py. -/
import Derived.Test.YtkfeliogglnngaaGreatGBD
import Derived.Test.YtkfeliogglnngaaGreatGBB
import Derived.Laws.IdiomCopy
namespace Go.Proofs.YtkfeliogglnngaaGreat
open Go Go.RowKit
namespace NetDo
open Kit LexM TermM TermI NetM NetN NetK NetA NetC NetI NetMk NetNu NetOk NetEv NetBo
/-- A block that holds outputs one after another. -/
structure RowC (w : World) (g : Nat) (R : List (Ou × Value)) : Prop where
  cell : ∀ (k : Nat) (x : Ou × Value), R[k]? = some x → ∀ (j : Nat) (u : Value), (KO.cells x)[j]? = some u → w.cell? ⟨g, k * 5 + j, none⟩ = some u
  free : ∀ q, w.frozen? ⟨g, q, none⟩ = false
  lt : g < w.heap.size
theorem RowC.below {w w' : World} {g : Nat} {R : List (Ou × Value)} (h : RowC w g R) (q : Below w.heap.size w w') : RowC w' g R :=
  ⟨fun k x hx j u hu => (q.cell (p := ⟨g, _, none⟩) h.lt).trans (h.cell k x hx j u hu), fun i => (q.frozen (p := ⟨g, i, none⟩) h.lt).trans (h.free i), Nat.lt_of_lt_of_le h.lt q.size⟩
theorem RowC.five {w : World} {g k : Nat} {R : List (Ou × Value)} {r v gt : Int} {t : Tm} {a : Value} (h : RowC w g R) (hx : R[k]? = some ((r, v, t, gt), a)) :
    w.cell? ⟨g, k * 5, none⟩ = some (.int .i64 r) ∧ w.cell? ⟨g, k * 5 + 1, none⟩ = some (.int .i64 v) ∧ w.cell? ⟨g, k * 5 + 2, none⟩ = some (.string t.nm) ∧ w.cell? ⟨g, k * 5 + 3, none⟩ = some a ∧ w.cell? ⟨g, k * 5 + 4, none⟩ = some (.int .i64 gt) :=
  ⟨by have := h.cell k _ hx 0 _ rfl; simpa [KO] using this, by have := h.cell k _ hx 1 _ rfl; simpa [KO] using this, by have := h.cell k _ hx 2 _ rfl; simpa [KO] using this, by have := h.cell k _ hx 3 _ rfl; simpa [KO] using this, by have := h.cell k _ hx 4 _ rfl; simpa [KO] using this⟩
/-- An output is stored. -/
def put5 (w : World) (g k : Nat) (r v : Int) (s : ByteArray) (a : Value) (gt : Int) : World := ((((w.setCell ⟨g, k * 5, none⟩ (.int .i64 r)).setCell ⟨g, k * 5 + 1, none⟩ (.int .i64 v)).setCell ⟨g, k * 5 + 2, none⟩ (.string s)).setCell ⟨g, k * 5 + 3, none⟩ a).setCell ⟨g, k * 5 + 4, none⟩ (.int .i64 gt)
theorem put5_other {w : World} {g k q b : Nat} {r v gt : Int} {s : ByteArray} {a : Value} (h : b ≠ g ∨ q < k * 5 ∨ k * 5 + 5 ≤ q) : (put5 w g k r v s a gt).cell? ⟨b, q, none⟩ = w.cell? ⟨b, q, none⟩ := by
  unfold put5
  rw [World.cell?_setCell_other _ _ _ _ (by intro e; injection e with e1 e2; omega), World.cell?_setCell_other _ _ _ _ (by intro e; injection e with e1 e2; omega), World.cell?_setCell_other _ _ _ _ (by intro e; injection e with e1 e2; omega), World.cell?_setCell_other _ _ _ _ (by intro e; injection e with e1 e2; omega), World.cell?_setCell_other _ _ _ _ (by intro e; injection e with e1 e2; omega)]
theorem put5_size {w : World} {g k : Nat} {r v gt : Int} {s : ByteArray} {a : Value} : (put5 w g k r v s a gt).heap.size = w.heap.size := by simp [put5, World.setCell]
theorem put5_row {w : World} {g k : Nat} {R : List (Ou × Value)} {r v gt : Int} {t : Tm} {a : Value} (h : RowC w g R) (hk : k < R.length) : RowC (put5 w g k r v t.nm a gt) g (R.set k ((r, v, t, gt), a)) := by
  obtain ⟨x0, hx⟩ : ∃ x, R[k]? = some x := ⟨R[k], List.getElem?_eq_getElem hk⟩
  have e5 : put5 w g k r v t.nm a gt = w.setCells g (k * 5) (KO.cells ((r, v, t, gt), a)) := rfl
  have hsome : ∀ j, j < (KO.cells ((r, v, t, gt), a)).length → (w.cell? ⟨g, k * 5 + j, none⟩).isSome = true := fun j hj => by
    rw [KO.len] at hj
    have hj2 : j < (KO.cells x0).length := by rw [KO.len]; exact hj
    rw [h.cell k x0 hx j _ (List.getElem?_eq_getElem hj2)]
    rfl
  refine ⟨fun i x hi j u hu => ?_, fun q => ?_, by rw [put5_size]; exact h.lt⟩
  · rw [List.getElem?_set] at hi
    obtain ⟨hj, hu2⟩ := List.getElem?_eq_some_iff.1 hu
    by_cases e : k = i
    · subst e
      rw [if_pos rfl, if_pos hk] at hi
      obtain rfl := Option.some.inj hi
      rw [e5, World.cell?_setCells_in g _ (k * 5) w hsome j hj, hu2]
    · rw [if_neg e] at hi
      rw [KO.len] at hj
      have hj5 : j < 5 := hj
      rw [put5_other (by omega)]
      exact h.cell i x hi j u hu
  · rw [e5, World.frozen?_setCells]
    exact h.free q
theorem put5_below {B : Nat} {w0 w : World} {g k : Nat} {r v gt : Int} {s : ByteArray} {a : Value} (h : Below B w0 w) (hg : B ≤ g) : Below B w0 (put5 w g k r v s a gt) :=
  ((((h.setCell (p := ⟨g, k * 5, none⟩) hg _).setCell (p := ⟨g, k * 5 + 1, none⟩) hg _).setCell (p := ⟨g, k * 5 + 2, none⟩) hg _).setCell (p := ⟨g, k * 5 + 3, none⟩) hg _).setCell (p := ⟨g, k * 5 + 4, none⟩) hg _
/-- Whether an output is left out. -/
def delB (r : Int) (V : List Bool) (x : Ou) : Bool := !(decide (x.1 = r) && vAt V x.2.2.2)
set_option maxRecDepth 100000 in
set_option maxHeartbeats 3200000 in
theorem del_any (r : Int) (V : List Bool) (gr gv B : Nat) (w0 w : World) (pv : Option Addr) (cv : Nat) (o1 o2 o4 : Int) (s : ByteArray) (pa : Option Addr) (na ca : Nat)
    (hD : Below B w0 w) (hr : gr < B) (hv : gv < B) (cr : w0.cell? ⟨gr, 0, none⟩ = some (.int .i64 r)) (cv0 : w0.cell? ⟨gv, 0, none⟩ = some (.slice pv V.length cv)) (hV : RowE KB (· < B) w0 V (.slice pv V.length cv)) (hg0 : 0 ≤ o4) (hg1 : o4 < V.length) :
    Calls Tryz.prog 60 #[.agg #[.int .i64 o1, .int .i64 o2, .string s, .slice pa na ca, .int .i64 o4], .pointer (some ⟨gr, 0, none⟩), .pointer (some ⟨gv, 0, none⟩)] w fun e w' => e = .returned (.bool (!(decide (o1 = r) && vAt V o4))) ∧ Below w.heap.size w w' := by
  obtain ⟨t, rfl⟩ : ∃ t : Nat, o4 = (t : Int) := ⟨o4.toNat, by omega⟩
  obtain ⟨b, hb⟩ : ∃ b, V[t]? = some b := ⟨_, List.getElem?_eq_getElem (by omega)⟩
  obtain ⟨g', o', e1, e2, _, e4⟩ := hV.at hb
  subst e1
  have c3 : w0.cell? ⟨g', o' + t, none⟩ = some (.bool b) := by have := e4 0 _ rfl; simpa [KB] using this
  have c1' := (hD.cell (p := ⟨gr, 0, none⟩) hr).trans cr
  have c2' := (hD.cell (p := ⟨gv, 0, none⟩) hv).trans cv0
  have c3' := (hD.cell (p := ⟨g', o' + t, none⟩) (show g' < B from e2)).trans c3
  have VA : Hid (vAt V (t : Int) = b) := Lib.hid (v_get (by rw [Int.toNat_natCast]; exact hb))
  obtain ⟨W1, hW1⟩ : ∃ z, z = w.alloc (.cells #[.int .i64 o1, .int .i64 o2, .string s, .slice pa na ca, .int .i64 (t : Int)] 74) := ⟨_, rfl⟩
  have K1 : Hid (Below w.heap.size w W1) := Lib.hid (by rw [hW1]; exact below_alloc _ _)
  have H1 : Has W1 w.heap.size #[.int .i64 o1, .int .i64 o2, .string s, .slice pa na ca, .int .i64 (t : Int)] := by rw [hW1]; exact Has.new _ _ _
  have x1 := H1.cell 0
  have x2 := H1.cell 4
  have d1 := (K1.out.cell (p := ⟨gr, 0, none⟩) (block_lt_of_cell c1')).trans c1'
  have d2 := (K1.out.cell (p := ⟨gv, 0, none⟩) (block_lt_of_cell c2')).trans c2'
  have d3 := (K1.out.cell (p := ⟨g', o' + t, none⟩) (block_lt_of_cell c3')).trans c3'
  have j0 : (0 : Int) ≤ (t : Int) := by omega
  have j1 : (t : Int) < V.length := hg1
  rw [show (!(decide (o1 = r) && vAt V (t : Int))) = (!(decide (o1 = r) && b)) by rw [VA.out]]
  clear hD hr hv cr cv0 hV hg0 hg1 hb e2 e4 c3 c1' c2' c3' H1 VA
  generalize V.length = lv at *
  by_cases h1 : o1 = r
  · have i1 : (o1 != r) = false := by simp [h1]
    rw [decide_eq_true h1, Bool.true_and]
    clear h1
    go_enter Tryz.func60, Tryz.ntmps60
    go_upto_region 1 with fail
    rw [← hW1]
    clear hW1
    go_wp2_with fail
    go_ret
    exact ⟨rfl, K1.out⟩
  · have i1 : (o1 != r) = true := by simp [h1]
    rw [decide_eq_false h1, Bool.false_and]
    clear h1
    go_enter Tryz.func60, Tryz.ntmps60
    go_upto_region 1 with fail
    rw [← hW1]
    clear hW1
    go_wp2_with fail
    go_ret
    exact ⟨rfl, K1.out⟩
/-- What the closure says of an output, in every later world. -/
def CloP (f : Ou → Bool) (R : List (Ou × Value)) (gr gv B : Nat) (w0 : World) : Prop :=
  ∀ (k : Nat) (r v gt : Int) (t : Tm) (a : Value) (w : World), R[k]? = some ((r, v, t, gt), a) → Below B w0 w → Calls Tryz.prog 60 #[.agg #[.int .i64 r, .int .i64 v, .string t.nm, a, .int .i64 gt], .pointer (some ⟨gr, 0, none⟩), .pointer (some ⟨gv, 0, none⟩)] w fun e w' => e = .returned (.bool (f (r, v, t, gt))) ∧ Below w.heap.size w w'
/-- Where the first hit is. -/
def IdxQ (f : Ou → Bool) (R : List (Ou × Value)) (w : World) (e : Ending) (w' : World) : Prop :=
  ∃ i : Int, e = .returned (.int .i64 i) ∧ ((i = -1 ∧ ∀ x ∈ R, f x.1 = false) ∨ (∃ (k : Nat) (x : Ou × Value), i = (k : Int) ∧ R[k]? = some x ∧ f x.1 = true ∧ ∀ j y, j < k → R[j]? = some y → f y.1 = false)) ∧ Below w.heap.size w w'
set_option maxRecDepth 100000 in
set_option maxHeartbeats 3200000 in
theorem idx_any (f : Ou → Bool) (R : List (Ou × Value)) (g n cap gr gv B : Nat) (w0 w : World) (hR : RowC w g R) (hn : R.length = n) (hm : n ≤ 1000000) (hD : Below B w0 w) (hB : B ≤ w0.heap.size) (hf : ∀ x ∈ R, ∃ p c, x.2 = .slice p x.1.2.2.1.args.length c) (hc : CloP f R gr gv B w0) :
    Calls Tryz.prog 77 #[.slice (some ⟨g, 0, none⟩) n cap, .func (.func 60) #[] #[.pointer (some ⟨gr, 0, none⟩), .pointer (some ⟨gv, 0, none⟩)]] w (IdxQ f R w) := by
  have HR := Lib.hid hR
  have HN := Lib.hid hn
  have HF := Lib.hid hf
  have HC := Lib.hid hc
  have DD := Lib.hid hD
  have hsz : B ≤ w.heap.size := Nat.le_trans hB hD.size
  clear hR hn hf hc hD hB
  go_enter Tryz.func77, Tryz.ntmps77
  go_wp2_with fail
  go_loopw [8] (fun i wr => ∃ k : Nat, k ≤ n ∧ i = .int .i64 k ∧ Hid (∀ j x, j < k → R[j]? = some x → f x.1 = false) ∧ Hid (Below w.heap.size w wr)) (fun i _ => n - (intOf i).toNat)
  case atStart => exact ⟨0, Nat.zero_le _, rfl, Lib.hid (fun j x hj => by omega), Lib.hid (Below.refl _ _)⟩
  case round =>
    obtain ⟨k, hk, rfl, hT, hQ⟩ := hrel
    by_cases hlt : k < n
    · obtain ⟨⟨⟨r1, v1, t1, g1⟩, a1⟩, hx⟩ : ∃ x, R[k]? = some x := ⟨R[k]'(by rw [HN.out]; exact hlt), by simp⟩
      obtain ⟨pa, ca, ea⟩ := HF.out _ (List.mem_of_getElem? hx)
      dsimp only at ea
      subst ea
      obtain ⟨c0, c1, c2, c3, c4⟩ := (HR.out.below hQ.out).five hx
      have C1 := Lib.hid (HC.out k r1 v1 g1 t1 _ wr hx (DD.out.trans (hQ.out.mono hsz)))
      have HX := Lib.hid hx
      have j0 : (0 : Int) ≤ (k : Int) := by omega
      have j1 : (k : Int) < n := by omega
      clear hx
      generalize hb : f (r1, v1, t1, g1) = b at *
      have HBv := Lib.hid hb
      clear hb
      go_wp2_with fail
      refine C1.out.mono ?_
      rintro e w3 ⟨rfl, g3⟩
      have D3 := Lib.hid (next0 hQ.out g3)
      clear g3 C1 c0 c1 c2 c3 c4
      cases b
      · have T2 : Hid (∀ j x, j < k + 1 → R[j]? = some x → f x.1 = false) := Lib.hid (fun j x hj hx => by
          by_cases e : j = k
          · subst e
            rw [HX.out] at hx
            injection hx with hx
            rw [← hx]
            exact HBv.out
          · exact hT.out j x (by omega) hx)
        go_wp2_with fail
        go_roundw
        case rel => first | exact ⟨k + 1, by omega, by go_num, T2, D3⟩ | ((repeat (apply Exists.intro)); refine ⟨?_, rfl⟩; exact ⟨k + 1, by omega, by go_num, T2, D3⟩)
        case measure => simp [intOf]; omega
      · go_wp2_with fail
        go_ret
        exact ⟨(k : Int), rfl, Or.inr ⟨k, _, rfl, HX.out, HBv.out, hT.out⟩, D3.out⟩
    · obtain rfl : k = n := by omega
      have AL : Hid (∀ x ∈ R, f x.1 = false) := Lib.hid (fun x hx => by
        obtain ⟨j, hj⟩ := List.mem_iff_getElem?.1 hx
        exact hT.out j x (by have := (List.getElem?_eq_some_iff.1 hj).1; have := HN.out; omega) hj)
      go_wp2_with fail
      go_ret
      exact ⟨-1, rfl, Or.inl ⟨rfl, AL.out⟩, hQ.out⟩
end NetDo
end Go.Proofs.YtkfeliogglnngaaGreat
