/- FractionSums for every shape of the list: the empty one, one of more than 60 members, and the rest. -/
import Derived.Test.YtlamemhfnglfeaaDoorFracL6
import Derived.Deep.SlicePairs
import Derived.Deep.RegionHeld
namespace Go.Proofs.YtlamemhfnglfeaaDoor
open Go Go.RowKit Go.ChangeShapes Go.Deep
namespace FracX
open Kit FracM FracN FracP FracU FracV FracRM FracSP
open FracB (fr)
open FracT (Tab tab_below)
set_option maxRecDepth 100000 in
set_option maxHeartbeats 3200000 in
theorem esum (a : Option Addr) (cap : Nat) (w : World) :
    Calls Tryd.prog 30 #[.slice a 0 cap] w fun e w' => e = .returned (fr (0, 1, 0)) ∧ Below w.heap.size w w' := by
  go_enter Tryd.func30, Tryd.ntmps30
  go_wp2_with fail
  go_loopw [12] (fun v12 wr => v12 = .int .i64 0 ∧ Hid (Has wr (w.heap.size + 1) #[.int .i64 0, .int .i64 1]) ∧ Hid (Has wr w.heap.size #[.int .i64 0, .int .i64 0]) ∧ Hid (Below w.heap.size w wr)) (fun _ _ => 0)
  case atStart =>
    refine ⟨rfl, ?_, ?_, ?_⟩
    · exact Has.new1 w _ _ _
    · exact (Has.new w _ _).alloc _
    · exact (FracB.below_alloc w _).alloc (by simp) _
  case round =>
    obtain ⟨rfl, hA, hR, hD⟩ := hrel
    have A := hA.out
    have R := hR.out
    have D := hD.out
    clear hA hR hD
    obtain ⟨c5, c6, _, _, l2⟩ := A.two
    obtain ⟨c7, c8, f7, f8, l3⟩ := R.two
    go_wp2_with fail
    have r0 := R.put0 (.int .i64 0) (.int .i64 1)
    have r1 := R.put1 (.int .i64 0) (.int .i64 1)
    refine bodyPost_ret (v := fr (0, 1, 0)) (by simp [results, Tryd.results30, go_sem, r0, r1]) rfl ?_
    exact ⟨rfl, by repeat (first | exact D | refine Below.setCell ?_ (by simp) _)⟩

set_option maxRecDepth 100000 in
set_option maxHeartbeats 3200000 in
theorem emean (a : Option Addr) (cap : Nat) (w : World) :
    Calls Tryd.prog 31 #[.slice a 0 cap] w fun e w' => e = .returned (fr (0, 0, 13)) ∧ Below w.heap.size w w' := by
  go_enter Tryd.func31, Tryd.ntmps31
  go_wp2_with fail
  obtain ⟨r0, r1, _, _, _⟩ := (Has.new w 23 #[.int .i64 0, .int .i64 0]).two
  refine bodyPost_ret (v := fr (0, 0, 13)) (by simp [results, Tryd.results31, go_sem, r0, r1]) rfl ?_
  exact ⟨rfl, FracB.below_alloc w _⟩
set_option maxRecDepth 100000 in
set_option maxHeartbeats 3200000 in
theorem ersum (a : Option Addr) (cap : Nat) (w : World) :
    Calls Tryd.prog 32 #[.slice a 0 cap] w fun e w' => e = .returned (fr (0, 1, 0)) ∧ Below w.heap.size w w' := by
  go_enter Tryd.func32, Tryd.ntmps32
  go_wp2_with fail
  have k0 := FracB.below_alloc w (.cells #[.int .i64 0, .int .i64 0] 23)
  refine (FracRS.int_one 0 _).mono ?_
  rintro e w2 ⟨rfl, k2⟩
  have R2 := Has.made k2
  have D2 := next0 k0 k2
  clear k0 k2
  go_wp2_with fail
  have hsz := R2.lt
  generalize hg : w2.heap.size = g at hsz
  go_loopw [11] (fun v11 wr => v11 = .int .i64 0 ∧ Hid (Has wr g #[.int .i64 0, .int .i64 1]) ∧ Hid (Has wr w.heap.size #[.int .i64 0, .int .i64 0]) ∧ Hid (Below w.heap.size w wr)) (fun _ _ => 0)
  case atStart =>
    refine ⟨rfl, ?_, ?_, ?_⟩
    · subst hg
      exact Has.new w2 _ _
    · exact R2.alloc _
    · exact D2.alloc (by have := D2.size; omega) _
  case round =>
    obtain ⟨rfl, hA, hR, hD⟩ := hrel
    have A := hA.out
    have R := hR.out
    have D := hD.out
    clear hA hR hD
    obtain ⟨c5, c6, _, _, l2⟩ := A.two
    obtain ⟨c7, c8, f7, f8, l3⟩ := R.two
    go_wp2_with fail
    have r0 := R.put0 (.int .i64 0) (.int .i64 1)
    have r1 := R.put1 (.int .i64 0) (.int .i64 1)
    refine bodyPost_ret (v := fr (0, 1, 0)) (by simp [results, Tryd.results32, go_sem, r0, r1]) rfl ?_
    exact ⟨rfl, by repeat (first | exact D | refine Below.setCell ?_ (by simp) _)⟩
set_option maxRecDepth 100000 in
set_option maxHeartbeats 3200000 in
theorem ermean (a : Option Addr) (cap : Nat) (w : World) :
    Calls Tryd.prog 33 #[.slice a 0 cap] w fun e w' => e = .returned (fr (0, 0, 13)) ∧ Below w.heap.size w w' := by
  go_enter Tryd.func33, Tryd.ntmps33
  go_wp2_with fail
  obtain ⟨r0, r1, _, _, _⟩ := (Has.new w 23 #[.int .i64 0, .int .i64 0]).two
  refine bodyPost_ret (v := fr (0, 0, 13)) (by simp [results, Tryd.results33, go_sem, r0, r1]) rfl ?_
  exact ⟨rfl, FracB.below_alloc w _⟩
set_option maxRecDepth 100000 in
set_option maxHeartbeats 3200000 in
theorem sums_long (a : Option Addr) (len cap : Nat) (w : World) (ht : Tab w) (hl : 60 < len) :
    Calls Tryd.prog 7 #[.slice a len cap] w fun e w' => e = .returned (.bool true) ∧ Below w.heap.size w w' := by
  go_enter Tryd.func7, Tryd.ntmps7
  go_wp2_with fail
  refine (FracW.awake_any _ ht).mono ?_
  rintro e w5 ⟨rfl, k5⟩
  go_wp2_with fail
  go_ret
  exact ⟨rfl, k5⟩
set_option maxRecDepth 100000 in
set_option maxHeartbeats 3200000 in
theorem sums_empty (a : Option Addr) (cap : Nat) (w : World) (ht : Tab w) :
    Calls Tryd.prog 7 #[.slice a 0 cap] w fun e w' => e = .returned (.bool true) ∧ Below w.heap.size w w' := by
  go_enter Tryd.func7, Tryd.ntmps7
  go_wp2_with fail
  refine (esum a cap _).mono ?_
  rintro e w1 ⟨rfl, k1⟩
  go_wp2_with fail
  refine (emean a cap _).mono ?_
  rintro e w2 ⟨rfl, k2⟩
  have A2 := Lib.hid (Has.made k2)
  have D2 := Lib.hid (next1 k1 k2)
  clear k1 k2
  go_wp2_with fail
  refine (ersum a cap _).mono ?_
  rintro e w3 ⟨rfl, k3⟩
  have A3 := Lib.hid (Has.step A2.out k3)
  have B3 := Lib.hid (Has.made k3)
  have D3 := Lib.hid (next1 D2.out k3)
  clear k3 A2 D2
  go_wp2_with fail
  refine (ermean a cap _).mono ?_
  rintro e w4 ⟨rfl, k4⟩
  have A4 := Lib.hid (Has.step A3.out k4)
  have B4 := Lib.hid (Has.step B3.out k4)
  have C4 := Lib.hid (Has.made k4)
  have D4 := Lib.hid (next1 D3.out k4)
  clear k4 A3 B3 D3
  obtain ⟨a1, a2, _, _, l1⟩ := A4.out.two
  obtain ⟨b1, b2, _, _, l2⟩ := B4.out.two
  obtain ⟨c1, c2, _, _, l3⟩ := C4.out.two
  go_wp2_with fail
  have D5 := next0 D4.out (FracB.below_alloc w4 (.cells #[.int .i64 0, .int .i64 0] 23))
  refine (FracW.awake_any _ (tab_below ht D5)).mono ?_
  rintro e w5 ⟨rfl, k5⟩
  go_wp2_with fail
  go_ret
  exact ⟨rfl, next0 D5 k5⟩
theorem under : ∃ f0 f1 : Field, Tryd.prog.underlying 23 = some (.struct #[f0, f1]) ∧ f0.offset = 0 ∧ f1.offset = 1 ∧ f0.type = 3 ∧ f1.type = 3 := ⟨_, _, Tryd.underlying23, rfl, rfl, rfl, rfl⟩
theorem cellsI : Tryd.prog.cellsOf 3 = 1 := by kernel_rfl
theorem cellsF : Tryd.prog.cellsOf 23 = 2 := by kernel_rfl
theorem collect {W : World} {b off m : Nat} (h : ∀ i, i < m → ∃ t : Int × Int, W.cell? ⟨b, off + i * 2, none⟩ = some (.int .i64 t.1) ∧ W.cell? ⟨b, off + i * 2 + 1, none⟩ = some (.int .i64 t.2) ∧ (-9223372036854775808 ≤ t.1 ∧ t.1 ≤ 9223372036854775807) ∧ -9223372036854775808 ≤ t.2 ∧ t.2 ≤ 9223372036854775807) :
    ∀ n, n ≤ m → ∃ ts : List (Int × Int), ts.length = n ∧ ∀ i t, ts[i]? = some t → W.cell? ⟨b, off + i * 2, none⟩ = some (.int .i64 t.1) ∧ W.cell? ⟨b, off + i * 2 + 1, none⟩ = some (.int .i64 t.2) ∧ (-9223372036854775808 ≤ t.1 ∧ t.1 ≤ 9223372036854775807) ∧ -9223372036854775808 ≤ t.2 ∧ t.2 ≤ 9223372036854775807 := by
  intro n
  induction n with
  | zero => intro _; exact ⟨[], rfl, fun i t h => by simp at h⟩
  | succ n ih =>
    intro hn
    obtain ⟨ts, hl, hc⟩ := ih (by omega)
    obtain ⟨t, ht⟩ := h n (by omega)
    refine ⟨ts ++ [t], by simp [hl], fun i u hi => ?_⟩
    by_cases c : i < n
    · rw [List.getElem?_append_left (by omega)] at hi
      exact hc i u hi
    · have e : i = n := by
        have := (List.getElem?_eq_some_iff.1 hi).1
        simp [hl] at this
        omega
      subst e
      rw [List.getElem?_append_right (by omega), hl, Nat.sub_self] at hi
      simp at hi
      subst hi
      exact ht
theorem open_fracs {H : Type} {enc : TypeId × Value → H} {W : World} {b0 : Nat} {base : Nat} {held : Bool} {v : Value} {d : DataW H} {p : List MemPlace}
    (hv : Value.okWide Tryd.prog W .any b0 35 v) (h : DataW.Trod enc Tryd.prog W base (fun _ => true) held 35 v d p) :
    (∃ a cap, v = .slice a 0 cap) ∨ ∃ (b off m cap : Nat) (ts : List (Int × Int)), v = .slice (some ⟨b, off, none⟩) m cap ∧ Fr W b off ts ∧ ts.length = m := by
  obtain ⟨a0, m0, c0, rfl⟩ := Go.WideShapes.okWide_slice Tryd.underlying35 hv
  obtain ⟨fuel, hf⟩ := h
  obtain ⟨f0, f1, hu, o0, o1, y0, y1⟩ := under
  rcases open_slice_pairs Tryd.underlying35 hu cellsF o0 o1 (by rw [y0]; exact cellsI) (by rw [y1]; exact cellsI) hf with ⟨h0, _⟩ | ⟨a, len, cap, m, n, V0, V1, D0, D1, P0, P1, hc, _, hle, hm, hmm, _, hx⟩
  · simp [Value.cells] at h0
    obtain ⟨rfl, rfl, rfl⟩ := h0
    exact Or.inl ⟨none, 0, rfl⟩
  · simp [Value.cells] at hc
    obtain ⟨rfl, rfl, rfl⟩ := hc
    simp only [if_true] at hmm
    by_cases h0 : m0 = 0
    · subst h0; exact Or.inl ⟨_, _, rfl⟩
    · obtain ⟨b, off, spot⟩ := a
      have hspot : spot = none := by simpa [Addr.add] using World.cell?_spot (hx 0 (by omega)).1
      subst hspot
      have each : ∀ i, i < m0 → ∃ t : Int × Int, W.cell? ⟨b, off + i * 2, none⟩ = some (.int .i64 t.1) ∧ W.cell? ⟨b, off + i * 2 + 1, none⟩ = some (.int .i64 t.2) ∧ (-9223372036854775808 ≤ t.1 ∧ t.1 ≤ 9223372036854775807) ∧ -9223372036854775808 ≤ t.2 ∧ t.2 ≤ 9223372036854775807 := by
        intro i hi
        obtain ⟨e0, e1, g0, g1⟩ := hx i (by omega)
        rw [Go.WideShapes.add_plain] at e0 e1
        rw [y0] at g0
        rw [y1] at g1
        obtain ⟨z0, q0, _, w0⟩ := DataW.trod_int Tryd.underlying3 g0
        obtain ⟨z1, q1, _, w1⟩ := DataW.trod_int Tryd.underlying3 g1
        simp at q0 q1
        rw [q0] at e0
        rw [q1] at e1
        exact ⟨(z0, z1), e0, e1, bounds_i64 w0, bounds_i64 w1⟩
      obtain ⟨ts, hl, hcs⟩ := collect each m0 (Nat.le_refl _)
      have e0 := (hx 0 (by omega)).1
      exact Or.inr ⟨b, off, m0, c0, ts, rfl, ⟨World.block_lt_of_cell? W _ e0, hcs⟩, hl⟩
end FracX
end Go.Proofs.YtlamemhfnglfeaaDoor
