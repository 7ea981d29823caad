/- The contract of the reference's Mean over a list of fractions that lies in memory, and of both Sums over the nil list. No other conditions. -/
import Derived.Test.YtlamemhfnglfeaaDoorKit
import Derived.Test.YtlamemhfnglfeaaDoorFracRS
import Derived.Test.YtlamemhfnglfeaaDoorFracV
import Derived.Deep.RegionHeld3
import Derived.Deep.DeepCutAuto
namespace Go.Proofs.YtlamemhfnglfeaaDoor
open Go Go.RowKit
namespace FracRM
open Kit FracM FracU FracV
open FracB (fr)

/-- What the reference's Mean answers. -/
def meanR (l : List (Int × Int)) : Int × Int × Int :=
  if l.length = 0 then (0, 0, 13) else if (sumL l 0 1).2.2 = 0 then divF (sumL l 0 1).1 (sumL l 0 1).2.1 (l.length : Int) 1 else (0, 0, (sumL l 0 1).2.2)

set_option maxRecDepth 100000 in
set_option maxHeartbeats 3200000 in
theorem mean_some (b off len cap : Nat) (l : List (Int × Int)) (w : World) (hl : l.length = len) (h0 : ¬ len = 0) (hlen : len ≤ 60) (hF : Fr w b off l) :
    Calls Tryd.prog 33 #[.slice (some ⟨b, off, none⟩) len cap] w fun e w' => e = .returned (fr (meanR l)) ∧ Below w.heap.size w w' := by
  have hr := fun w2 (h : Fr w2 b off l) => FracRS.sum_any b off len cap l w2 hl hlen h
  have hri := sumL_in l 0 1 (by omega) (by omega)
  have hm : meanR l = if (sumL l 0 1).2.2 = 0 then divF (sumL l 0 1).1 (sumL l 0 1).2.1 (len : Int) 1 else (0, 0, (sumL l 0 1).2.2) := by
    unfold meanR
    rw [hl, if_neg h0]
  generalize meanR l = m at hm ⊢
  generalize sumL l 0 1 = r at hr hri hm
  obtain ⟨x, y, z⟩ := r
  dsimp only at hri hm
  have Hr := Lib.hid hr
  have Hm := Lib.hid hm
  clear hr hm
  go_enter Tryd.func33, Tryd.ntmps33
  go_wp2_with fail
  have F0 : Fr (w.alloc (.cells #[.int .i64 0, .int .i64 0] 23)) b off l := hF.below (FracB.below_alloc w _) hF.1
  refine (Hr.out _ F0).mono ?_
  rintro e w2 ⟨rfl, k2⟩
  have R := Has.made k2
  have D := next0 (FracB.below_alloc w _) k2
  clear k2 F0 Hr
  obtain ⟨c5, c6, f5, f6, l2⟩ := R.two
  by_cases hz : z = 0
  case neg =>
    have hz' : (z != 0) = true := by simpa using hz
    have hm := Hm.out
    rw [if_neg hz] at hm
    subst hm
    clear hz Hm
    go_wp2_with fail
    obtain ⟨r0, r1, _, _, _⟩ := ((has_put R (.int .i64 0) (.int .i64 0)).alloc (.cells #[.int .i64 x, .int .i64 y] 23)).two
    refine bodyPost_ret (v := fr (0, 0, z)) (by simp [results, Tryd.results33, go_sem, r0, r1]) rfl ?_
    exact ⟨rfl, ((D.setCell (p := ⟨w.heap.size, 0, none⟩) (by simp) _).setCell (p := ⟨w.heap.size, 1, none⟩) (by simp) _).alloc (by have := D.size; simp; omega) _⟩
  case pos =>
    subst hz
    have hm := Hm.out
    rw [if_pos rfl] at hm
    have Hk := Lib.hid (fun w3 => FracG.doDiv x y (len : Int) 1 w3 (by omega) (by omega) (by omega) (by omega) (by omega) (by omega) (by omega) (by omega))
    rw [← hm] at Hk
    clear hm
    go_wp2_with fail
    have A := Has.new w2 23 #[.int .i64 x, .int .i64 y]
    replace R := R.alloc (.cells #[.int .i64 x, .int .i64 y] 23)
    replace D := D.alloc (by have := D.size; omega) (.cells #[.int .i64 x, .int .i64 y] 23)
    clear c5 c6 f5 f6
    have hne : w.heap.size ≠ w2.heap.size := by omega
    generalize w2.heap.size = g at *
    generalize w2.alloc (.cells #[.int .i64 x, .int .i64 y] 23) = wr at *
    obtain ⟨c1, c2, f1, f2, l3⟩ := A.two
    obtain ⟨c5, c6, f5, f6, l4⟩ := R.two
    have HI := Lib.hid (fun w4 => FracRS.int_one (len : Int) w4)
    go_region_with (first
      | (go_at_call 46; refine (HI.out _).mono ?_; rintro e w3 ⟨rfl, k3⟩; have A3 : Has w3 g #[.int .i64 x, .int .i64 y] := (by first | exact A.step0 k3 | exact A.drew.step0 k3 | exact (A.drewN _).step0 k3); have R3 : Has w3 w.heap.size #[.int .i64 0, .int .i64 0] := (by first | exact R.step0 k3 | exact R.drew.step0 k3 | exact (R.drewN _).step0 k3); have D3 : Below w.heap.size w w3 := (by first | exact next0 D k3 | exact next0 D.drew k3); obtain ⟨c1, c2, f1, f2, l3⟩ := A3.two; obtain ⟨c5, c6, f5, f6, l4⟩ := R3.two)
      | (go_at_call 44; refine (Hk.out _).mono ?_; rintro e w4 ⟨rfl, k4⟩; have R4 : Has w4 w.heap.size #[.int .i64 0, .int .i64 0] := R3.step0 k4; have D4 : Below w.heap.size w w4 := next0 D3 k4; obtain ⟨c5, c6, f5, f6, l4⟩ := R4.two; obtain ⟨a1, a2, a3⟩ := m))
    all_goals
      go_wp2_with fail
      obtain ⟨r0, r1, _, _, _⟩ := (has_put R4 (.int .i64 a1) (.int .i64 a2)).two
      refine bodyPost_ret (v := fr (a1, a2, a3)) (by simp [results, Tryd.results33, go_sem, r0, r1]) rfl ?_
      exact ⟨rfl, (D4.setCell (p := ⟨w.heap.size, 0, none⟩) (Nat.le_refl _) _).setCell (p := ⟨w.heap.size, 1, none⟩) (Nat.le_refl _) _⟩

set_option maxRecDepth 100000 in
set_option maxHeartbeats 3200000 in
theorem mean_nil (v : Value) (w : World) (hv : v = .slice none 0 0 ∨ ∃ b off cap, v = .slice (some ⟨b, off, none⟩) 0 cap) :
    Calls Tryd.prog 33 #[v] w fun e w' => e = .returned (fr (0, 0, 13)) ∧ Below w.heap.size w w' := by
  rcases hv with rfl | ⟨b, off, cap, rfl⟩ <;>
  · go_enter Tryd.func33, Tryd.ntmps33
    go_wp2_with fail
    obtain ⟨r0, r1, _, _, _⟩ := (Has.new w 23 #[.int .i64 0, .int .i64 0]).two
    refine bodyPost_ret (v := fr (0, 0, 13)) (by simp [results, Tryd.results33, go_sem, r0, r1]) rfl ?_
    exact ⟨rfl, FracB.below_alloc w _⟩

set_option maxRecDepth 100000 in
set_option maxHeartbeats 3200000 in
theorem sum_nil (w : World) :
    Calls Tryd.prog 32 #[.slice none 0 0] w fun e w' => e = .returned (fr (0, 1, 0)) ∧ Below w.heap.size w w' := by
  go_enter Tryd.func32, Tryd.ntmps32
  go_wp2_with fail
  have k0 := FracB.below_alloc w (.cells #[.int .i64 0, .int .i64 0] 23)
  refine (FracRS.int_one 0 _).mono ?_
  rintro e w2 ⟨rfl, k2⟩
  have R2 := Has.made k2
  have D2 := next0 k0 k2
  clear k0 k2
  go_wp2_with fail
  have hsz := R2.lt
  generalize hg : w2.heap.size = g at hsz
  go_loopw [11] (fun v11 wr => v11 = .int .i64 0 ∧ Hid (Has wr g #[.int .i64 0, .int .i64 1]) ∧ Hid (Has wr w.heap.size #[.int .i64 0, .int .i64 0]) ∧ Hid (Below w.heap.size w wr)) (fun _ _ => 0)
  case atStart =>
    refine ⟨rfl, ?_, ?_, ?_⟩
    · subst hg
      exact Has.new w2 _ _
    · exact R2.alloc _
    · exact D2.alloc (by have := D2.size; omega) _
  case round =>
    obtain ⟨rfl, hA, hR, hD⟩ := hrel
    have A := hA.out
    have R := hR.out
    have D := hD.out
    clear hA hR hD
    obtain ⟨c5, c6, _, _, l2⟩ := A.two
    obtain ⟨c7, c8, f7, f8, l3⟩ := R.two
    go_wp2_with fail
    have r0 := R.put0 (.int .i64 0) (.int .i64 1)
    have r1 := R.put1 (.int .i64 0) (.int .i64 1)
    refine bodyPost_ret (v := fr (0, 1, 0)) (by simp [results, Tryd.results32, go_sem, r0, r1]) rfl ?_
    exact ⟨rfl, by repeat (first | exact D | refine Below.setCell ?_ (by simp) _)⟩
end FracRM
end Go.Proofs.YtlamemhfnglfeaaDoor
