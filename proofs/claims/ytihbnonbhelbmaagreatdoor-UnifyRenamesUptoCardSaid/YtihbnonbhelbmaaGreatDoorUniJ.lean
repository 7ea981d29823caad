/- slices.Clip and slices.Insert at bindings. Condition: at most a thousand bindings. -/
import Derived.Test.YtihbnonbhelbmaaGreatDoorUniE
import Derived.Shelf.Spec.SlicesInsert
import Derived.Lib.AppendZerosOnto
import Derived.Laws.NewBlocks
import Derived.Laws.IdiomCopy
namespace Go.Proofs.YtihbnonbhelbmaaGreatDoor
open Go Go.RowKit
namespace UniJ
open LexM TermM TermI Kit TermN TermU UniK UniM UniA UniC UniD UniE
theorem infoB : (Tryz.prog.info? 52).map (fun i => (i.zero, i.size, i.bytes)) = some (some (.agg #[.string ⟨#[]⟩, .string ⟨#[]⟩, .slice none 0 0]), 3, 56) := by kernel_rfl
abbrev zB : Value := .agg #[.string ⟨#[]⟩, .string ⟨#[]⟩, .slice none 0 0]
theorem run_copy_wide {P : Program} (k : Nat) (w : World) (dT sT ty elem : TypeId) (b o dLen dCap : Nat) (a : Addr) (sLen sCap : Nat) (cs : List Value)
    (hu : P.underlying dT = some (.slice elem)) (hs : (P.info? elem).map (·.size) = some k) (hn : cs.length = Nat.min sLen dLen * k)
    (hsrc : ∀ j v, cs[j]? = some v → w.cell? (a.add j) = some v) (hc : ∀ j, j < cs.length → (w.cell? ⟨b, o + j, none⟩).isSome = true) (hf : ∀ j, j < cs.length → w.frozen? ⟨b, o + j, none⟩ = false) (h1 : ∀ v ∈ cs, v.oneCell' = true) :
    (Builtin.copy_ #[dT, sT] ty #[.slice (some ⟨b, o, none⟩) dLen dCap, .slice (some a) sLen sCap]).run P w = .ok (goInt (Nat.min sLen dLen)) (w.setCells b o cs) := by
  have hl := run_loadCells_list (P := P) w a cs hsrc
  have hst := run_storeCells_cells (P := P) b o cs 0 w (by simpa using hc) (by simpa using hf) h1
  cases hq : P.info? elem with
  | none => simp [hq] at hs
  | some i =>
    have hi : i.size = k := by simpa [hq] using hs
    simp [Builtin.copy_, run_underlying hu, Builtin.lenOf, Builtin.firstCells, sizeOf, typeInfo, hq, hi, ← hn, hl, hst]
theorem clip_any (p : Option Addr) (n c : Nat) (w : World) (hnc : n ≤ c) (_hc : c ≤ maxLen) : Calls Tryz.prog 109 #[.slice p n c] w fun e w' => e = .returned (.slice p n n) ∧ w' = w := by
  have hc := _hc
  unfold maxLen at hc
  go_enter Tryz.func109, Tryz.ntmps109
  go_wp2_with fail
  go_ret
  exact ⟨rfl, rfl⟩
set_option maxHeartbeats 4000000 in
set_option maxRecDepth 100000 in
/-- At the end: a new row. -/
theorem ins_end (base : Option Addr) (n vb : Nat) (cs vs : List Value) (w : World) (hn : n ≤ 1000) (hcl : cs.length = n * 3) (hvl : vs.length = 3) (hnil : base = none → n = 0)
    (hcs : ∀ a, base = some a → ∀ j v, cs[j]? = some v → w.cell? (a.add j) = some v)
    (hvs : ∀ j v, vs[j]? = some v → w.cell? ⟨vb, 0 + j, none⟩ = some v) (h1v : ∀ v ∈ vs, v.oneCell' = true) :
    Calls Tryz.prog 110 #[.slice base n n, .int .i64 n, .slice (some ⟨vb, 0, none⟩) 1 1] w fun e w' =>
      e = .returned (.slice (some ⟨w.heap.size, 0, none⟩) (n + 1) (grownCap w (n + 1) n 52)) ∧
      w' = w.drew.alloc (.cells ((cs ++ vs).toArray ++ Builtin.zeroCells zB.cells (grownCap w (n + 1) n 52 - (n + 1))) 52) := by
  obtain ⟨i0, hi0, hz0, hzs, hzb⟩ := info_parts infoB
  have hsrc : Src Tryz.prog i0.size 22 (.slice (some ⟨vb, 0, none⟩) 1 1) 1 vs w := by
    rw [hzs]
    exact Src.ofSlice w Tryz.underlying22 ⟨vb, 0, none⟩ 1 1 vs (by omega) (fun j u hj => by rw [Addr.add_lit]; exact hvs j u hj) h1v
  have hold : (Builtin.firstCells i0.size n (.slice base n n)).run Tryz.prog w.drew = .ok cs.toArray w.drew := by
    rw [hzs]
    cases base with
    | none =>
      have h0 := hnil rfl
      subst h0
      rw [List.length_eq_zero_iff.1 hcl]
      exact run_firstCells_none w.drew 3 0 0 0
    | some a => exact run_firstCells_some w.drew 3 n a n n cs (by omega) (fun j v hj => hcs a rfl j v hj)
  have hrun : ∀ ty, (Builtin.append_ #[22, 22] ty #[.slice base n n, .slice (some ⟨vb, 0, none⟩) 1 1]).run Tryz.prog w = _ := fun ty =>
    run_append_grow_src w 22 22 ty 52 i0 _ Tryz.underlying22 hi0 hz0 base n n cs hold _ 1 vs hsrc (by omega) (by omega) (by rw [hzb]; exact growslice_fits (by omega) (by omega))
  clear hold hsrc hi0 hz0 hzs hzb
  generalize grownCap w (n + 1) n 52 = G at *
  cases base with
  | none =>
    have h0 := hnil rfl
    subst h0
    go_enter Tryz.func110, Tryz.ntmps110
    go_wp2_with (at_builtin; refine Lib.wpList_append_run _ rfl _ _ _ _ rfl _ _ rfl rfl _ _ (hrun _) ?_)
    go_ret
    exact ⟨rfl, rfl⟩
  | some a =>
    obtain ⟨ab, ao, asp⟩ := a
    go_enter Tryz.func110, Tryz.ntmps110
    go_wp2_with (at_builtin; refine Lib.wpList_append_run _ rfl _ _ _ _ rfl _ _ rfl rfl _ _ (hrun _) ?_)
    all_goals (go_ret; exact ⟨rfl, rfl⟩)
set_option maxHeartbeats 4000000 in
set_option maxRecDepth 100000 in
/-- Ahead of the end: a new row. -/
theorem ins_grow (b off n i vb : Nat) (cs vs : List Value) (w : World) (hi : i < n) (hn : n ≤ 1000) (hcl : cs.length = n * 3) (hvl : vs.length = 3)
    (hcs : ∀ j v, cs[j]? = some v → w.cell? ⟨b, off + j, none⟩ = some v)
    (hvs : ∀ j v, vs[j]? = some v → w.cell? ⟨vb, 0 + j, none⟩ = some v) (h1c : ∀ v ∈ cs, v.oneCell' = true) (h1v : ∀ v ∈ vs, v.oneCell' = true) :
    Calls Tryz.prog 110 #[.slice (some ⟨b, off, none⟩) n n, .int .i64 i, .slice (some ⟨vb, 0, none⟩) 1 1] w fun e w' =>
      e = .returned (.slice (some ⟨w.heap.size, 0, none⟩) (n + 1) (grownCap w (n + 1) n 52)) ∧
      w' = (((w.alloc (.cells ((cs.take (i * 3)).toArray ++ Builtin.zeroCells zB.cells (n + 1 - i) ++ Builtin.zeroCells zB.cells (grownCap w (n + 1) n 52 - (n + 1))) 52)).drew.setCells w.heap.size (i * 3) vs).drew).setCells w.heap.size ((i + 1) * 3) (cs.drop (i * 3)) := by
  obtain ⟨i0, hi0, hz0, hzs, hzb⟩ := info_parts infoB
  have hz2 : ¬ ((i : Int) = (n : Int)) := by omega
  have hz3 : (n : Int) < (n : Int) + (1 : Int) := by omega
  have hsz : (Tryz.prog.info? 52).map (·.size) = some 3 := by rw [hi0]; simp [hzs]
  have hbw : b < w.heap.size := block_lt_of_cell (hcs 0 _ (List.getElem?_eq_getElem (by omega)))
  have hvw : vb < w.heap.size := block_lt_of_cell (hvs 0 _ (List.getElem?_eq_getElem (by omega)))
  have hkk : (n : Int) + (1 : Int) - (i : Int) = ((n + 1 - i : Nat) : Int) := by omega
  have hik : i + (n + 1 - i) = n + 1 := by omega
  have hold : (Builtin.firstCells i0.size i (.slice (some ⟨b, off, none⟩) i n)).run Tryz.prog w.drew = .ok (cs.take (i * 3)).toArray w.drew := by
    rw [hzs]
    exact run_firstCells_some w.drew 3 i ⟨b, off, none⟩ i n (cs.take (i * 3)) (by rw [List.length_take]; omega) (fun j v hj => by
      rw [Addr.add_lit]
      rw [List.getElem?_take] at hj
      split at hj
      · exact hcs j v hj
      · cases hj)
  have hrz : ∀ ty, (Builtin.append_ #[22, 3] ty #[.slice (some ⟨b, off, none⟩) i n, .int .i64 ((n : Int) + (1 : Int) - (i : Int))]).run Tryz.prog w =
      .ok (.slice (some ⟨w.heap.size, 0, none⟩) (n + 1) (grownCap w (n + 1) n 52)) (w.drew.alloc (.cells ((cs.take (i * 3)).toArray ++ Builtin.zeroCells zB.cells (n + 1 - i) ++ Builtin.zeroCells zB.cells (grownCap w (n + 1) n 52 - (n + 1))) 52)) := fun ty => by
    have h := Lib.run_append_grow_zeros w 22 3 ty 52 i0 _ .i64 .i64 Tryz.underlying22 (by kernel_rfl) hi0 hz0 (some ⟨b, off, none⟩) i n (cs.take (i * 3)) hold (n + 1 - i) (by omega) (by omega) (by omega) (by omega) (by rw [hzb]; omega) (by rw [hzb, hik]; exact growslice_fits (by omega) (by omega))
    rw [hik] at h
    rw [hkk]
    exact h
  obtain ⟨G, hG⟩ : ∃ G, G = grownCap w (n + 1) n 52 := ⟨_, rfl⟩
  obtain ⟨ROW, hROW⟩ : ∃ ROW : Array Value, ROW = (cs.take (i * 3)).toArray ++ Builtin.zeroCells zB.cells (n + 1 - i) ++ Builtin.zeroCells zB.cells (G - (n + 1)) := ⟨_, rfl⟩
  rw [← hG] at hrz ⊢
  rw [← hROW] at hrz ⊢
  have hRl : (n + 1) * 3 ≤ ROW.size := by
    rw [hROW]
    have e1 : (Builtin.zeroCells zB.cells (n + 1 - i)).size = (n + 1 - i) * 3 := by
      simp [Builtin.zeroCells, Value.cells]
    simp only [Array.size_append, e1, List.size_toArray, List.length_take]
    omega
  obtain ⟨W1, hW1⟩ : ∃ W1, W1 = w.drew.alloc (.cells ROW 52) := ⟨_, rfl⟩
  rw [← hW1] at hrz
  have hN : ∀ j, j < (n + 1) * 3 → (W1.cell? ⟨w.heap.size, j, none⟩).isSome = true := fun j hj => by
    rw [hW1, World.cell?_alloc_at (w := w.drew) ROW _ w.heap.size j rfl, Array.getElem?_eq_getElem (by omega)]; rfl
  have hNf : ∀ j, W1.frozen? ⟨w.heap.size, j, none⟩ = false := fun j => by rw [hW1]; exact World.frozen?_alloc_at (w := w.drew) ROW _ w.heap.size j rfl
  have hOb : ∀ j v, w.cell? ⟨b, j, none⟩ = some v → W1.cell? ⟨b, j, none⟩ = some v := fun j v h => by rw [hW1, World.cell?_alloc_past (w := w.drew) _ b j hbw]; exact h
  have hOv : ∀ j v, w.cell? ⟨vb, j, none⟩ = some v → W1.cell? ⟨vb, j, none⟩ = some v := fun j v h => by rw [hW1, World.cell?_alloc_past (w := w.drew) _ vb j hvw]; exact h
  have m1 : Nat.min 1 (n + 1 - i) = 1 := by simp only [Nat.min_def]; split <;> omega
  have m2 : Nat.min (n - i) (n + 1 - (i + 1)) = n - i := by simp only [Nat.min_def]; split <;> omega
  have hcpA : ∀ (W : World), (∀ x, W.cell? x = W1.cell? x) → (∀ x, W.frozen? x = W1.frozen? x) → ∀ ty dc, (Builtin.copy_ #[22, 22] ty #[.slice (some ⟨w.heap.size, i * 3, none⟩) (n + 1 - i) dc, .slice (some ⟨vb, 0, none⟩) 1 1]).run Tryz.prog W = .ok (goInt 1) (W.setCells w.heap.size (i * 3) vs) := fun W hWc hWf ty dc => by
    have := run_copy_wide 3 W 22 22 ty 52 w.heap.size (i * 3) (n + 1 - i) dc ⟨vb, 0, none⟩ 1 1 vs Tryz.underlying22 hsz (by rw [hvl, m1])
      (fun j v hj => by rw [Addr.add_lit, hWc]; exact hOv _ v (hvs j v hj))
      (fun j hj => by rw [hWc]; exact hN _ (by omega)) (fun j hj => by rw [hWf]; exact hNf _) h1v
    rw [m1] at this
    exact this
  have hGn : n + 1 ≤ G := by rw [hG]; exact grownCap_ge w _ _ _
  have hG63 : G ≤ 9223372036854775807 := by
    have := grownCap_le_maxLen w (n + 1) n 52 (by unfold maxLen; omega)
    rw [← hG] at this
    unfold maxLen at this
    omega
  have hGi : ¬ (G = i) := by omega
  have hGim : ¬ (G = i + 1) := by omega
  have hci : ¬ (n = i) := by omega
  have hbN : b ≠ w.heap.size := by omega
  have hdl : (cs.drop (i * 3)).length = (n - i) * 3 := by rw [List.length_drop, hcl]; omega
  have hcpB : ∀ (W : World), (∀ x, W.cell? x = (W1.setCells w.heap.size (i * 3) vs).cell? x) → (∀ x, W.frozen? x = (W1.setCells w.heap.size (i * 3) vs).frozen? x) → ∀ ty dc sc, (Builtin.copy_ #[22, 22] ty #[.slice (some ⟨w.heap.size, (i + 1) * 3, none⟩) (n + 1 - (i + 1)) dc, .slice (some ⟨b, off + i * 3, none⟩) (n - i) sc]).run Tryz.prog W = .ok (goInt ((n - i : Nat) : Int)) (W.setCells w.heap.size ((i + 1) * 3) (cs.drop (i * 3))) := fun W hWc hWf ty dc sc => by
    have := run_copy_wide 3 W 22 22 ty 52 w.heap.size ((i + 1) * 3) (n + 1 - (i + 1)) dc ⟨b, off + i * 3, none⟩ (n - i) sc (cs.drop (i * 3)) Tryz.underlying22 hsz (by rw [hdl, m2])
      (fun j v hj => by
        rw [Addr.add_lit, hWc, World.cell?_setCells_out _ _ _ _ _ (fun h _ => absurd h hbN), Nat.add_assoc]
        exact hOb _ v (hcs (i * 3 + j) v (by rwa [List.getElem?_drop] at hj)))
      (fun j hj => by rw [hWc]; exact isSome_setCells _ _ _ _ (fun t ht => hN _ (by omega)) _ (hN _ (by omega)))
      (fun j hj => by rw [hWf, World.frozen?_setCells]; exact hNf _) (fun v hv => h1c v (List.mem_of_mem_drop hv))
    rw [m2] at this
    exact this
  subst hW1
  have hE1 : ∀ x, ((w.alloc (.cells ROW 52)).drew).cell? x = (w.drew.alloc (.cells ROW 52)).cell? x := fun x => rfl
  have hE2 : ∀ x, ((w.alloc (.cells ROW 52)).drew).frozen? x = (w.drew.alloc (.cells ROW 52)).frozen? x := fun x => rfl
  have hF1 : ∀ x, (((w.alloc (.cells ROW 52)).drew.setCells w.heap.size (i * 3) vs).drew).cell? x = ((w.drew.alloc (.cells ROW 52)).setCells w.heap.size (i * 3) vs).cell? x := fun x => rfl
  have hF2 : ∀ x, (((w.alloc (.cells ROW 52)).drew.setCells w.heap.size (i * 3) vs).drew).frozen? x = ((w.drew.alloc (.cells ROW 52)).setCells w.heap.size (i * 3) vs).frozen? x := fun x => rfl
  have mixed : Tryz.prog.follows Departure.mixedOrders = true := by kernel_rfl
  have hw1 : IntKind.i64.wrap ((i : Int) + (1 : Int)) = (i : Int) + (1 : Int) := by rw [IntKind.wrap_i64]; omega
  have hb1 : (0 : Int) ≤ (i : Int) + (1 : Int) := by omega
  have hin : i ≤ n := by omega
  have htn : ((i : Int) + (1 : Int)).toNat = i + 1 := by omega
  have hb3 : (i : Int) ≤ (n : Int) := by omega
  clear hkk hik hold hROW hG hRl m1 m2
  go_enter Tryz.func110, Tryz.ntmps110
  go_wp2_with (first
    | (at_builtin; refine Lib.wpList_append_run _ rfl _ _ _ _ rfl _ _ rfl rfl _ _ (hrz _) ?_)
    | (at_builtin; refine wpList_copy_runI _ rfl _ _ 22 22 rfl _ _ rfl rfl (hcpA _ hE1 hE2 _ _) ?_)
    | (at_builtin; refine wpList_copy_runI _ rfl _ _ 22 22 rfl _ _ rfl rfl (hcpB _ (fun _ => rfl) (fun _ => rfl) _ _ _) ?_))
  go_region_law_o (refine step_copy_runI rfl _ _ 22 22 rfl (.slice (some ⟨w.heap.size, (i + 1) * 3, none⟩) (n + 1 - (i + 1)) (G - (i + 1))) (.slice (some ⟨b, off + i * 3, none⟩) (n - i) (n - i)) (by simp [Act.eval, Act.put]) (by simp [Act.eval, Act.put]) (hcpB _ hF1 hF2 3 (G - (i + 1)) (n - i)) ?_)
  go_wp2
  go_ret
  exact ⟨rfl, rfl⟩
theorem flat_take {α : Type} {K : Kd α} (L : List α) (i : Nat) (hi : i ≤ L.length) : (K.flat L).take (i * 3) = K.flat (L.take i) := by
  have h : K.flat L = K.flat (L.take i) ++ K.flat (L.drop i) := by rw [← flat_app, List.take_append_drop]
  have hl : (K.flat (L.take i)).length = i * 3 := by rw [flat_len, List.length_take]; congr 1; omega
  rw [h, ← hl, List.take_left]
theorem flat_drop {α : Type} {K : Kd α} (L : List α) (i : Nat) (hi : i ≤ L.length) : (K.flat L).drop (i * 3) = K.flat (L.drop i) := by
  have h : K.flat L = K.flat (L.take i) ++ K.flat (L.drop i) := by rw [← flat_app, List.take_append_drop]
  have hl : (K.flat (L.take i)).length = i * 3 := by rw [flat_len, List.length_take]; congr 1; omega
  rw [h, ← hl, List.drop_left]
theorem flat_at {α : Type} {K : Kd α} {L : List α} {w : World} {g o : Nat} (h : ∀ i x, L[i]? = some x → ∀ j u, (K.cells x)[j]? = some u → w.cell? ⟨g, o + i * 3 + j, none⟩ = some u) :
    ∀ j v, (K.flat L)[j]? = some v → w.cell? ⟨g, o + j, none⟩ = some v := by
  intro j v hj
  have hl := (List.getElem?_eq_some_iff.1 hj).1
  rw [flat_len] at hl
  have hq : j / 3 < L.length := by omega
  have hx : L[j / 3]? = some L[j / 3] := List.getElem?_eq_getElem hq
  have hc : (K.cells L[j / 3])[j % 3]? = some ((K.cells L[j / 3])[j % 3]'(by rw [K.len]; omega)) := List.getElem?_eq_getElem _
  have e := flat_get L (j / 3) _ hx (j % 3) _ hc
  rw [show j / 3 * 3 + j % 3 = j by omega, hj] at e
  cases e
  have := h (j / 3) _ hx (j % 3) _ hc
  rwa [show o + j / 3 * 3 + j % 3 = o + j by omega] at this
theorem kb_one {ok : Nat → Prop} {w : World} {x : Bd × Value} (h : KB.inn ok w x) : ∀ u ∈ KB.cells x, u.oneCell' = true := by
  obtain ⟨p, c, e⟩ := h.1.form
  intro u hu
  simp only [KB, e, List.mem_cons, List.not_mem_nil, or_false] at hu
  rcases hu with rfl | rfl | rfl <;> rfl
theorem flat_one' {ok : Nat → Prop} {w : World} {L : List (Bd × Value)} (h : ∀ x ∈ L, KB.inn ok w x) : ∀ u ∈ KB.flat L, u.oneCell' = true := by
  intro u hu
  unfold Kd.flat at hu
  obtain ⟨x, hx, hu⟩ := List.mem_flatMap.1 hu
  exact kb_one (h x hx) u hu
theorem below_setCells' {B g : Nat} {a : World} (hg : B ≤ g) : ∀ (vs : List Value) (o : Nat) (w : World), Below B a w → Below B a (w.setCells g o vs)
  | [], _, _, h => h
  | v :: r, o, _, h => below_setCells' hg r (o + 1) _ (h.setCell (p := ⟨g, o, none⟩) hg v)
/-- A binding put in. -/
def InsR (s : List Bd) (w : World) (e : Ending) (w' : World) : Prop := ∃ v, e = .returned v ∧ SIn (· < w'.heap.size) w' s v ∧ Below w.heap.size w w'
theorem row_put {w w' : World} {L : List (Bd × Value)} {x : Bd × Value} {i cap : Nat} (hi : i ≤ L.length) (hb : Below w.heap.size w w') (hL : ∀ y ∈ L, KB.inn (· < w.heap.size) w y) (hx : KB.inn (· < w.heap.size) w x) (hc : L.length + 1 ≤ cap) (hm : cap ≤ maxLen)
    (hat : ∀ j v, (KB.flat (L.take i ++ x :: L.drop i))[j]? = some v → w'.cell? ⟨w.heap.size, j, none⟩ = some v) :
    SIn (· < w'.heap.size) w' ((L.map (·.1)).take i ++ x.1 :: (L.map (·.1)).drop i) (.slice (some ⟨w.heap.size, 0, none⟩) (L.length + 1) cap) := by
  have hlen : (L.take i ++ x :: L.drop i).length = L.length + 1 := by simp; omega
  have k : ∀ y, KB.inn (· < w.heap.size) w y → KB.inn (· < w'.heap.size) w' y := fun y h => KB.wide (KB.keep h fun b o hlt => hb.cell (p := ⟨b, o, none⟩) hlt) fun b hlt => Nat.lt_of_lt_of_le hlt hb.size
  refine ⟨L.take i ++ x :: L.drop i, by simp [List.map_take, List.map_drop], some ⟨w.heap.size, 0, none⟩, cap, by rw [hlen], by omega, hm, fun y hy => ?_, fun _ => ⟨w.heap.size, 0, rfl, ?_, fun n y hy j u hu => ?_⟩⟩
  · rcases List.mem_append.1 hy with h | h
    · exact k y (hL y (List.mem_of_mem_take h))
    · rcases List.mem_cons.1 h with rfl | h
      · exact k _ hx
      · exact k y (hL y (List.mem_of_mem_drop h))
  · have h0 : 0 < (KB.flat (L.take i ++ x :: L.drop i)).length := by rw [flat_len, hlen]; omega
    exact block_lt_of_cell (hat 0 _ (List.getElem?_eq_getElem h0))
  · rw [show 0 + n * 3 + j = n * 3 + j by omega]
    exact hat _ _ (flat_get _ n y hy j u hu)
theorem insert_any (s : List Bd) (x : Bd) (xv : Value) (i vb : Nat) (p : Option Addr) (w : World) (hi : i ≤ s.length) (hn : s.length ≤ 1000) (h : SIn (· < w.heap.size) w s (.slice p s.length s.length)) (hx : KB.inn (· < w.heap.size) w (x, xv)) (hv : Has w vb (KB.cells (x, xv)).toArray) :
    Calls Tryz.prog 110 #[.slice p s.length s.length, .int .i64 i, .slice (some ⟨vb, 0, none⟩) 1 1] w (InsR (s.take i ++ x :: s.drop i) w) := by
  obtain ⟨L, rfl, p', c', e, h1, h2, h3, h4⟩ := h
  have hll : (L.map (·.1)).length = L.length := by simp
  rw [hll] at hi hn e ⊢
  cases e
  have hvs : ∀ j v, (KB.cells (x, xv))[j]? = some v → w.cell? ⟨vb, 0 + j, none⟩ = some v := fun j v hj => by
    rw [Nat.zero_add, hv.cell j, List.getElem?_toArray]
    exact hj
  have hfl := flat_len (K := KB) L
  have h1v := kb_one hx
  by_cases hin : i = L.length
  · subst hin
    have hcs : ∀ a, p = some a → ∀ j v, (KB.flat L)[j]? = some v → w.cell? (a.add j) = some v := by
      intro a ha j v hj
      have hl := (List.getElem?_eq_some_iff.1 hj).1
      obtain ⟨g, o, e1, e2, e3⟩ := h4 (by omega)
      rw [ha] at e1
      cases e1
      rw [Addr.add_lit]
      exact flat_at e3 j v hj
    refine (ins_end p L.length vb (KB.flat L) (KB.cells (x, xv)) w hn hfl rfl (fun hp => ?_) hcs hvs h1v).mono ?_
    · rcases Nat.eq_zero_or_pos L.length with h | h
      · exact h
      · obtain ⟨g, o, e1, _⟩ := h4 h
        rw [hp] at e1
        cases e1
    · rintro e w' ⟨rfl, rfl⟩
      have hb : Below w.heap.size w (w.drew.alloc (.cells ((KB.flat L ++ KB.cells (x, xv)).toArray ++ Builtin.zeroCells zB.cells (grownCap w (L.length + 1) L.length 52 - (L.length + 1))) 52)) := next0 (Below.refl _ _).drew (below_alloc _ _)
      refine ⟨_, rfl, ?_, hb⟩
      have := row_put (x := (x, xv)) (i := L.length) (cap := grownCap w (L.length + 1) L.length 52) (Nat.le_refl _) hb h3 hx (grownCap_ge _ _ _ _) (grownCap_le_maxLen _ _ _ _ (by unfold maxLen; omega)) (fun j v hj => ?_)
      · exact this
      · rw [World.cell?_alloc_at (w := w.drew) _ _ w.heap.size j rfl]
        rw [List.take_length, List.drop_length, flat_app, flat_one] at hj
        have hl := (List.getElem?_eq_some_iff.1 hj).1
        rw [Array.getElem?_append_left (by simpa using hl), List.getElem?_toArray]
        exact hj
  · have hlt : i < L.length := by omega
    obtain ⟨g, o, rfl, e2, e3⟩ := h4 (by omega)
    have hcs := flat_at e3
    refine (ins_grow g o L.length i vb (KB.flat L) (KB.cells (x, xv)) w hlt hn hfl rfl hcs hvs (flat_one' h3) h1v).mono ?_
    rintro e w' ⟨rfl, hw⟩
    have hROW : ∃ ROW : Array Value, ROW = ((KB.flat L).take (i * 3)).toArray ++ Builtin.zeroCells zB.cells (L.length + 1 - i) ++ Builtin.zeroCells zB.cells (grownCap w (L.length + 1) L.length 52 - (L.length + 1)) := ⟨_, rfl⟩
    obtain ⟨ROW, hROW⟩ := hROW
    rw [← hROW] at hw
    have hRl : (L.length + 1) * 3 ≤ ROW.size := by
      rw [hROW]
      have e1 : (Builtin.zeroCells zB.cells (L.length + 1 - i)).size = (L.length + 1 - i) * 3 := by simp [Builtin.zeroCells, Value.cells]
      simp only [Array.size_append, e1, List.size_toArray, List.length_take]
      omega
    have hb : Below w.heap.size w w' := by
      rw [hw]
      exact below_setCells' (Nat.le_refl _) _ _ _ (below_setCells' (Nat.le_refl _) _ _ _ (below_alloc w _).drew).drew
    have c0 : ∀ j, (w.alloc (.cells ROW 52)).drew.cell? ⟨w.heap.size, j, none⟩ = ROW[j]? := fun j => World.cell?_alloc_at (w := w) ROW _ w.heap.size j rfl
    refine ⟨_, rfl, ?_, hb⟩
    refine row_put (x := (x, xv)) (i := i) (by omega) hb h3 hx (grownCap_ge _ _ _ _) (grownCap_le_maxLen _ _ _ _ (by unfold maxLen; omega)) (fun j v hj => ?_)
    have hfe : KB.flat (L.take i ++ (x, xv) :: L.drop i) = (KB.flat L).take (i * 3) ++ (KB.cells (x, xv) ++ (KB.flat L).drop (i * 3)) := by
      rw [flat_app, flat_take L i (by omega), flat_drop L i (by omega)]
      rfl
    rw [hfe] at hj
    have hlj := (List.getElem?_eq_some_iff.1 hj).1
    have htl : ((KB.flat L).take (i * 3)).length = i * 3 := by rw [List.length_take]; omega
    have hdl : ((KB.flat L).drop (i * 3)).length = (L.length - i) * 3 := by rw [List.length_drop]; omega
    have hkl : (KB.cells (x, xv)).length = 3 := rfl
    simp only [List.length_append, htl, hdl, hkl] at hlj
    have i0 : ∀ j, j < (L.length + 1) * 3 → ((w.alloc (.cells ROW 52)).drew.cell? ⟨w.heap.size, j, none⟩).isSome = true := fun j hj => by rw [c0, Array.getElem?_eq_getElem (by omega)]; rfl
    have iS : ∀ k, k < (L.length + 1) * 3 → (((w.alloc (.cells ROW 52)).drew.setCells w.heap.size (i * 3) (KB.cells (x, xv))).drew.cell? ⟨w.heap.size, k, none⟩).isSome = true := fun k hk => by
      have := isSome_setCells w.heap.size (KB.cells (x, xv)) (i * 3) (w.alloc (.cells ROW 52)).drew (fun t ht => i0 _ (by rw [hkl] at ht; omega)) k (i0 _ hk)
      exact this
    rw [hw]
    by_cases j1 : j < i * 3
    · rw [List.getElem?_append_left (by omega)] at hj
      rw [World.cell?_setCells_out _ _ _ _ _ (fun _ _ => Or.inl (by show j < (i + 1) * 3; omega))]
      show (World.setCells _ _ _ _).cell? _ = _
      rw [World.cell?_setCells_out _ _ _ _ _ (fun _ _ => Or.inl j1), c0, hROW, Array.getElem?_append_left (by simp; omega), Array.getElem?_append_left (by simp; omega), List.getElem?_toArray]
      exact hj
    · rw [List.getElem?_append_right (by omega), htl] at hj
      by_cases j2 : j < (i + 1) * 3
      · rw [List.getElem?_append_left (by rw [hkl]; omega)] at hj
        rw [World.cell?_setCells_out _ _ _ _ _ (fun _ _ => Or.inl j2)]
        show (World.setCells _ _ _ _).cell? _ = _
        have := World.cell?_setCells_in w.heap.size (KB.cells (x, xv)) (i * 3) (w.alloc (.cells ROW 52)).drew (fun k hk => i0 _ (by rw [hkl] at hk; omega)) (j - i * 3) (by rw [hkl]; omega)
        rw [show i * 3 + (j - i * 3) = j by omega] at this
        rw [this, ← hj, List.getElem?_eq_getElem (by rw [hkl]; omega)]
      · rw [List.getElem?_append_right (by rw [hkl]; omega), hkl] at hj
        have := World.cell?_setCells_in w.heap.size ((KB.flat L).drop (i * 3)) ((i + 1) * 3) ((w.alloc (.cells ROW 52)).drew.setCells w.heap.size (i * 3) (KB.cells (x, xv))).drew (fun k hk => iS _ (by rw [hdl] at hk; omega)) (j - (i + 1) * 3) (by rw [hdl]; omega)
        rw [show (i + 1) * 3 + (j - (i + 1) * 3) = j by omega] at this
        rw [this, ← hj, show j - i * 3 - 3 = j - (i + 1) * 3 by omega, List.getElem?_eq_getElem (by rw [hdl]; omega)]
end UniJ
end Go.Proofs.YtihbnonbhelbmaaGreatDoor
