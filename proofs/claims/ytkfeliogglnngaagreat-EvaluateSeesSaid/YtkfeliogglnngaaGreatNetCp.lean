/- Outputs are copied: make and copy of wide elements. No conditions but those that are written. Made by gnOu.py. -/
import Derived.Test.YtkfeliogglnngaaGreatNetDf
namespace Go.Proofs.YtkfeliogglnngaaGreat
open Go Go.RowKit
namespace NetCp
open Kit LexM TermM TermI NetM NetN NetK NetA NetC NetI NetMk NetNu NetOk NetEv NetBo NetDo NetDf
theorem run_copy_wide {P : Program} (k : Nat) (w : World) (dT sT ty elem : TypeId) (b o dLen dCap : Nat) (a : Addr) (sLen sCap : Nat) (cs : List Value)
    (hu : P.underlying dT = some (.slice elem)) (hs : (P.info? elem).map (·.size) = some k) (hn : cs.length = Nat.min sLen dLen * k)
    (hsrc : ∀ j v, cs[j]? = some v → w.cell? (a.add j) = some v) (hc : ∀ j, j < cs.length → (w.cell? ⟨b, o + j, none⟩).isSome = true) (hf : ∀ j, j < cs.length → w.frozen? ⟨b, o + j, none⟩ = false) (h1 : ∀ v ∈ cs, v.oneCell' = true) :
    (Builtin.copy_ #[dT, sT] ty #[.slice (some ⟨b, o, none⟩) dLen dCap, .slice (some a) sLen sCap]).run P w = .ok (goInt (Nat.min sLen dLen)) (w.setCells b o cs) := by
  have hl := run_loadCells_list (P := P) w a cs hsrc
  have hst := run_storeCells_cells (P := P) b o cs 0 w (by simpa using hc) (by simpa using hf) h1
  cases hq : P.info? elem with
  | none => simp [hq] at hs
  | some i =>
    have hi : i.size = k := by simpa [hq] using hs
    simp [Builtin.copy_, run_underlying hu, Builtin.lenOf, Builtin.firstCells, sizeOf, typeInfo, hq, hi, ← hn, hl, hst]
theorem Tryz.infoO : (Tryz.prog.info? 74).map (fun i => (i.zero, i.size, i.bytes)) = some (some zO, 5, 64) := by kernel_rfl
/-- An empty row of outputs is made. -/
theorem make_o (w : World) (n : Nat) (hn : n ≤ 1000000) : ∃ w', (Instr.makeSlice 26 (.int .i64 n) (.int .i64 n)).run Tryz.prog w = .ok (.slice (some ⟨w.heap.size, 0, none⟩) n n) w' ∧ (∀ j, j < n * 5 → (w'.cell? ⟨w.heap.size, j, none⟩).isSome = true) ∧ (∀ j, w'.frozen? ⟨w.heap.size, j, none⟩ = false) ∧ Below w.heap.size w w' ∧ w.heap.size < w'.heap.size := by
  obtain ⟨i, hi, hz, hs, hb⟩ := info_parts Tryz.infoO
  obtain ⟨w', h1, h2, h3⟩ := run_make_full (P := Tryz.prog) w w.heap.size 26 74 i zO 5 Tryz.underlying26 hi hz hs .i64 .i64 n (by rw [hb]; omega) (by unfold maxLen; omega) (Nat.le_refl _)
  refine ⟨w', h1, fun j hj => ?_, fun j => h2.frozenAt j, (Below.refl w.heap.size w).grown h3 (Nat.le_refl _) (fun k h => by cases h), (h2.lt _ rfl).2⟩
  rw [h2.cellAt j hj, List.getElem?_eq_getElem (by rw [h2.1]; exact hj)]
  rfl
/-- The cells of a row, one after another. -/
def csO (L : List (Ou × Value)) : List Value := (List.range (L.length * 5)).map fun j => (KO.cells (L.getD (j / 5) ((0, 0, ⟨⟨#[]⟩, []⟩, 0), .slice none 0 0))).getD (j % 5) (.int .i64 0)
theorem cs_len (L : List (Ou × Value)) : (csO L).length = L.length * 5 := by simp [csO]
theorem cs_src {L : List (Ou × Value)} {j : Nat} {v : Value} (h : (csO L)[j]? = some v) : ∃ x, L[j / 5]? = some x ∧ (KO.cells x)[j % 5]? = some v := by
  have hj := (List.getElem?_eq_some_iff.1 h).1
  rw [cs_len] at hj
  have hx : j / 5 < L.length := by omega
  refine ⟨L[j / 5], List.getElem?_eq_getElem hx, ?_⟩
  unfold csO at h
  rw [List.getElem?_map, List.getElem?_range hj, Option.map_some] at h
  have h := Option.some.inj h
  have h5 : j % 5 < (KO.cells L[j / 5]).length := by rw [KO.len]; exact Nat.mod_lt _ (by decide)
  rw [List.getD_eq_getElem?_getD, List.getD_eq_getElem?_getD, List.getElem?_eq_getElem hx, Option.getD_some, List.getElem?_eq_getElem h5, Option.getD_some] at h
  rw [List.getElem?_eq_getElem h5, h]
theorem cs_at {L : List (Ou × Value)} {i q : Nat} {x : Ou × Value} {u : Value} (h : L[i]? = some x) (hu : (KO.cells x)[q]? = some u) : (csO L)[i * 5 + q]? = some u := by
  have hi := (List.getElem?_eq_some_iff.1 h).1
  have hq := (List.getElem?_eq_some_iff.1 hu).1
  rw [KO.len] at hq
  have hq5 : q < 5 := hq
  unfold csO
  rw [List.getElem?_map, List.getElem?_range (by omega), Option.map_some, show (i * 5 + q) / 5 = i by omega, show (i * 5 + q) % 5 = q by omega, List.getD_eq_getElem?_getD, List.getD_eq_getElem?_getD, h, Option.getD_some, hu, Option.getD_some]
theorem ko_one (x : Ou × Value) (hx : ∃ p c, x.2 = .slice p x.1.2.2.1.args.length c) : ∀ u ∈ KO.cells x, u.oneCell' = true := by
  obtain ⟨⟨r, v, t, g⟩, a⟩ := x
  obtain ⟨p, c, e⟩ := hx
  dsimp only at e
  subst e
  intro u hu
  simp only [KO, List.mem_cons, List.not_mem_nil, or_false] at hu
  rcases hu with rfl | rfl | rfl | rfl | rfl <;> rfl
theorem cs_one {L : List (Ou × Value)} (h : ∀ x ∈ L, ∃ p c, x.2 = .slice p x.1.2.2.1.args.length c) : ∀ u ∈ csO L, u.oneCell' = true := by
  intro u hu
  obtain ⟨j, hj⟩ := List.mem_iff_getElem?.1 hu
  obtain ⟨x, hx, h2⟩ := cs_src hj
  exact ko_one x (h x (List.mem_of_getElem? hx)) u (List.mem_of_getElem? h2)
theorem sc_size (L : List Value) (g : Nat) : ∀ (o : Nat) (u : World), (u.setCells g o L).heap.size = u.heap.size := by
  induction L with
  | nil => intro o u; rfl
  | cons v L ih => intro o u; show ((u.setCell ⟨g, o, none⟩ v).setCells g (o + 1) L).heap.size = _; rw [ih]; simp [World.setCell]
theorem sc_below {B g : Nat} {w0 : World} (hg : B ≤ g) (L : List Value) : ∀ (o : Nat) (u : World), Below B w0 u → Below B w0 (u.setCells g o L) := by
  induction L with
  | nil => intro o u h; exact h
  | cons v L ih => intro o u h; exact ih (o + 1) _ (h.setCell (p := ⟨g, o, none⟩) hg v)
set_option maxRecDepth 100000 in
theorem sc_row {L : List (Ou × Value)} {w : World} {g : Nat} (hc : ∀ j, j < L.length * 5 → (w.cell? ⟨g, j, none⟩).isSome = true) (hf : ∀ j, w.frozen? ⟨g, j, none⟩ = false) (hg : g < w.heap.size) : RowC (w.setCells g 0 (csO L)) g L := by
  refine ⟨fun k x hx j u hu => ?_, fun q => by rw [World.frozen?_setCells]; exact hf q, by rw [sc_size]; exact hg⟩
  have h1 := cs_at hx hu
  obtain ⟨hj, h2⟩ := List.getElem?_eq_some_iff.1 h1
  have := World.cell?_setCells_in g (csO L) 0 w (fun j hj => by rw [Nat.zero_add]; exact hc j (by rw [cs_len] at hj; exact hj)) (k * 5 + j) hj
  rw [Nat.zero_add] at this
  rw [this, h2]
set_option maxRecDepth 100000 in
theorem copy_o {B : Nat} {w : World} {L : List (Ou × Value)} {g n cl : Nat} {pl : Option Addr} (hR : RowE KO (· < B) w L (.slice pl n cl)) (hc : ∀ j, j < n * 5 → (w.cell? ⟨g, j, none⟩).isSome = true) (hf : ∀ j, w.frozen? ⟨g, j, none⟩ = false) (ty : TypeId) :
    (Builtin.copy_ #[26, 26] ty #[.slice (some ⟨g, 0, none⟩) n n, .slice pl n cl]).run Tryz.prog w = .ok (goInt n) (w.setCells g 0 (csO L)) := by
  obtain ⟨hn, _, _⟩ := hR.cap
  subst hn
  obtain ⟨i, hi, _, hs, _⟩ := info_parts Tryz.infoO
  have hsz : (Tryz.prog.info? 74).map (·.size) = some 5 := by rw [hi, Option.map_some, hs]
  have one := cs_one (L := L) (fun x hx => by
    obtain ⟨p', c', _, _, _, _, h4, _⟩ := hR
    exact (h4 x hx).1.form)
  have some_ : ∀ a, pl = some a → (Builtin.copy_ #[26, 26] ty #[.slice (some ⟨g, 0, none⟩) L.length L.length, .slice pl L.length cl]).run Tryz.prog w = .ok (goInt L.length) (w.setCells g 0 (csO L)) := by
    rintro a rfl
    have := run_copy_wide (P := Tryz.prog) 5 w 26 26 ty 74 g 0 L.length L.length a L.length cl (csO L) Tryz.underlying26 hsz (by rw [cs_len, show Nat.min L.length L.length = L.length from Nat.min_self _]) (fun j v hj => by
      have hl := (List.getElem?_eq_some_iff.1 hj).1
      rw [cs_len] at hl
      obtain ⟨x, hx, hu⟩ := cs_src hj
      obtain ⟨b, o, e1, _, _, e4⟩ := hR.at hx
      injection e1 with e1
      subst e1
      rw [Addr.add_lit]
      have := e4 (j % 5) v hu
      rw [show o + j / 5 * KO.sz + j % 5 = o + j by show o + j / 5 * 5 + j % 5 = o + j; omega] at this
      exact this) (fun j hj => by rw [Nat.zero_add]; exact hc j (by rw [cs_len] at hj; exact hj)) (fun j _ => hf _) one
    rw [show Nat.min L.length L.length = L.length from Nat.min_self _] at this
    exact this
  cases hp : pl with
  | some a => subst hp; exact some_ a rfl
  | none =>
    subst hp
    have h0 : L = [] := by
      obtain ⟨p', c', e, h0, h1, _⟩ := hR
      injection e with e1 e2 e3
      have := h0 e1.symm
      exact List.length_eq_zero_iff.1 (by omega)
    subst h0
    simp [Builtin.copy_, run_underlying Tryz.underlying26, Builtin.lenOf, Builtin.firstCells, sizeOf, typeInfo, hi, csO, World.setCells, storeCells]
end NetCp
end Go.Proofs.YtkfeliogglnngaaGreat
