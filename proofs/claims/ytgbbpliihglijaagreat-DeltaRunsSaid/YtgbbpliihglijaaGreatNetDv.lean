/- Values of delta's engine: a copy of its row of bools. No conditions but those that are written. Made by gnDv.py. -/
import Derived.Test.YtgbbpliihglijaaGreatNetDn
import Derived.Test.YtgbbpliihglijaaGreatGBD
import Derived.Laws.IdiomCopy
namespace Go.Proofs.YtgbbpliihglijaaGreat
open Go Go.RowKit
namespace NetDv
open Kit TermM TermI NetM NetN NetK NetA NetC NetI NetMk NetNu NetOk NetEv NetBo NetMb NetDn
theorem run_copy_wide {P : Program} (k : Nat) (w : World) (dT sT ty elem : TypeId) (b o dLen dCap : Nat) (a : Addr) (sLen sCap : Nat) (cs : List Value)
    (hu : P.underlying dT = some (.slice elem)) (hs : (P.info? elem).map (·.size) = some k) (hn : cs.length = Nat.min sLen dLen * k)
    (hsrc : ∀ j v, cs[j]? = some v → w.cell? (a.add j) = some v) (hc : ∀ j, j < cs.length → (w.cell? ⟨b, o + j, none⟩).isSome = true) (hf : ∀ j, j < cs.length → w.frozen? ⟨b, o + j, none⟩ = false) (h1 : ∀ v ∈ cs, v.oneCell' = true) :
    (Builtin.copy_ #[dT, sT] ty #[.slice (some ⟨b, o, none⟩) dLen dCap, .slice (some a) sLen sCap]).run P w = .ok (goInt (Nat.min sLen dLen)) (w.setCells b o cs) := by
  have hl := run_loadCells_list (P := P) w a cs hsrc
  have hst := run_storeCells_cells (P := P) b o cs 0 w (by simpa using hc) (by simpa using hf) h1
  cases hq : P.info? elem with
  | none => simp [hq] at hs
  | some i =>
    have hi : i.size = k := by simpa [hq] using hs
    simp [Builtin.copy_, run_underlying hu, Builtin.lenOf, Builtin.firstCells, sizeOf, typeInfo, hq, hi, ← hn, hl, hst]
theorem sc_size (L : List Value) (g : Nat) : ∀ (o : Nat) (u : World), (u.setCells g o L).heap.size = u.heap.size := by
  induction L with
  | nil => intro o u; rfl
  | cons v L ih => intro o u; show ((u.setCell ⟨g, o, none⟩ v).setCells g (o + 1) L).heap.size = _; rw [ih]; simp [World.setCell]
theorem sc_below {B g : Nat} {w0 : World} (hg : B ≤ g) (L : List Value) : ∀ (o : Nat) (u : World), Below B w0 u → Below B w0 (u.setCells g o L) := by
  induction L with
  | nil => intro o u h; exact h
  | cons v L ih => intro o u h; exact ih (o + 1) _ (h.setCell (p := ⟨g, o, none⟩) hg v)
set_option maxRecDepth 100000 in
theorem bv_len (V : List Bool) : (boolV V).length = V.length := by simp [boolV]
set_option maxRecDepth 100000 in
theorem copy_b {ok : Nat → Prop} {w : World} {V : List Bool} {g c : Nat} {p : Option Addr} (hR : RowE KB ok w V (.slice p V.length c)) (hc : ∀ j, j < V.length → (w.cell? ⟨g, j, none⟩).isSome = true) (hf : ∀ j, w.frozen? ⟨g, j, none⟩ = false) (ty : TypeId) :
    (Builtin.copy_ #[47, 47] ty #[.slice (some ⟨g, 0, none⟩) V.length V.length, .slice p V.length c]).run Tryz.prog w = .ok (goInt V.length) (w.setCells g 0 (boolV V)) := by
  obtain ⟨i, hi, _, hs, _⟩ := info_parts Tryz.infoB
  have hsz : (Tryz.prog.info? 4).map (·.size) = some 1 := by rw [hi, Option.map_some, hs]
  have one : ∀ u ∈ boolV V, u.oneCell' = true := by
    intro u hu
    unfold boolV at hu
    obtain ⟨y, _, rfl⟩ := List.mem_map.1 hu
    rfl
  have some_ : ∀ a, p = some a → (Builtin.copy_ #[47, 47] ty #[.slice (some ⟨g, 0, none⟩) V.length V.length, .slice p V.length c]).run Tryz.prog w = .ok (goInt V.length) (w.setCells g 0 (boolV V)) := by
    rintro a rfl
    have := run_copy_wide (P := Tryz.prog) 1 w 47 47 ty 4 g 0 V.length V.length a V.length c (boolV V) Tryz.underlying47 hsz (by rw [bv_len, show Nat.min V.length V.length = V.length from Nat.min_self _, Nat.mul_one]) (fun j v hj => by
      have hl := (List.getElem?_eq_some_iff.1 hj).1
      rw [bv_len] at hl
      obtain ⟨b, hb⟩ : ∃ b, V[j]? = some b := ⟨_, List.getElem?_eq_getElem hl⟩
      have hv : v = .bool b := Option.some.inj (hj.symm.trans (boolv_get hb))
      subst hv
      obtain ⟨b2, o, e1, _, _, e4⟩ := hR.at hb
      injection e1 with e1
      subst e1
      rw [Addr.add_lit]
      have := e4 0 _ rfl
      rw [show o + j * KB.sz + 0 = o + j by show o + j * 1 + 0 = o + j; omega] at this
      exact this) (fun j hj => by rw [Nat.zero_add]; exact hc j (by rw [bv_len] at hj; exact hj)) (fun j _ => hf _) one
    rw [show Nat.min V.length V.length = V.length from Nat.min_self _] at this
    exact this
  cases hp : p with
  | some a => subst hp; exact some_ a rfl
  | none =>
    subst hp
    have h0 : V = [] := by
      obtain ⟨p', c', e, h0, h1, _⟩ := hR
      injection e with e1 e2 e3
      have := h0 e1.symm
      exact List.length_eq_zero_iff.1 (by omega)
    subst h0
    simp [Builtin.copy_, run_underlying Tryz.underlying47, Builtin.lenOf, Builtin.firstCells, sizeOf, typeInfo, hi, boolV, World.setCells, storeCells]
set_option maxRecDepth 100000 in
theorem values_live (ge : Nat) (V : List Bool) (w : World) (p : Option Addr) (c : Nat) (ok : Nat → Prop) (h : w.cell? ⟨ge, 0, none⟩ = some (.pointer (some ⟨ge, 0, none⟩))) (h2 : w.cell? ⟨ge, 2, none⟩ = some (.slice p V.length c)) (hV : RowE KB ok w V (.slice p V.length c)) (hk : ∀ b, ok b → b < w.heap.size) (hm : V.length ≤ 1000000) : Calls Tryz.prog 14 #[.pointer (some ⟨ge, 0, none⟩)] w (BlE V w) := by
  have CR := Lib.hid (returned_live ge w h)
  obtain ⟨wm, M, O, G⟩ := make_b w V.length hm
  have MB := (Below.refl w.heap.size w).grown G (Nat.le_refl _) (fun k h => by cases h)
  have MC : ∀ j, j < V.length → (wm.cell? ⟨w.heap.size, j, none⟩).isSome = true := fun j hj => by
    rw [O.cellAt j (by omega), List.getElem?_eq_getElem (by rw [bv_len]; simpa using hj)]
    rfl
  have MF : ∀ j, wm.frozen? ⟨w.heap.size, j, none⟩ = false := fun j => O.frozenAt j
  have ML := (O.lt _ rfl).2
  have V5 := hV.keep (w' := wm) fun b o hb => MB.cell (p := ⟨b, o, none⟩) (hk b hb)
  have cp := fun ty => copy_b V5 MC MF ty
  obtain ⟨wc, hwc⟩ : ∃ z, z = wm.setCells w.heap.size 0 (boolV V) := ⟨_, rfl⟩
  have RC : Hid (BlE V w (.returned (.slice (some ⟨w.heap.size, 0, none⟩) V.length V.length)) wc) := Lib.hid (by
    refine BlE.mk ⟨_, V.length, rfl, fun h => (by cases h), Nat.le_refl _, by unfold maxLen; omega, fun _ _ => trivial, fun _ => ⟨w.heap.size, 0, rfl, ⟨Nat.le_refl _, by rw [hwc, sc_size]; exact ML⟩, fun i x hx j u hu => ?_⟩⟩ (by rw [hwc]; exact sc_below (Nat.le_refl _) _ _ _ MB)
    have hi := (List.getElem?_eq_some_iff.1 hx).1
    have hj := (List.getElem?_eq_some_iff.1 hu).1
    rw [KB.len] at hj
    obtain rfl : j = 0 := by have : j < 1 := hj; omega
    have hu2 : u = .bool x := (Option.some.inj hu).symm
    subst hu2
    obtain ⟨hj2, h5⟩ := List.getElem?_eq_some_iff.1 (boolv_get hx)
    have := World.cell?_setCells_in w.heap.size (boolV V) 0 wm (fun j hj => by rw [Nat.zero_add]; exact MC j (by rw [bv_len] at hj; exact hj)) i hj2
    rw [h5] at this
    rw [hwc, show 0 + i * KB.sz + 0 = 0 + i by show 0 + i * 1 + 0 = 0 + i; omega]
    exact this)
  rw [← hwc] at cp
  have x2 := (MB.cell (p := ⟨ge, 2, none⟩) (block_lt_of_cell h2)).trans h2
  clear hwc MC MF ML V5 O G MB hV hk
  generalize V.length = lv at *
  go_enter Tryz.func14, Tryz.ntmps14
  go_wp2_with fail
  refine CR.out.mono ?_
  rintro e w' ⟨rfl, rfl⟩
  clear CR
  go_wp2_with fail
  go_ret
  exact RC.out
end NetDv
end Go.Proofs.YtgbbpliihglijaaGreat
