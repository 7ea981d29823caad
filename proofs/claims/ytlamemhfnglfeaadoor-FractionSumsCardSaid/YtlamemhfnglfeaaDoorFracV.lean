/- The contracts of fraction.Sum over the nil list and of fraction.Mean over a list of fractions that lies in memory. No other conditions. -/
import Derived.Test.YtlamemhfnglfeaaDoorKit
import Derived.Test.YtlamemhfnglfeaaDoorFracB
import Derived.Test.YtlamemhfnglfeaaDoorFracU
namespace Go.Proofs.YtlamemhfnglfeaaDoor
open Go Go.RowKit
namespace FracV
open Kit FracM FracU
open FracB (fr)

/-- What Mean answers. -/
def meanL (l : List (Int × Int)) : Int × Int × Int :=
  if l.length = 0 then (0, 0, 13) else if (sumL l 0 1).2.2 = 0 then mk (sumL l 0 1).1 ((sumL l 0 1).2.1 * (l.length : Int)) else (0, 0, (sumL l 0 1).2.2)

theorem sumL_in : ∀ (l : List (Int × Int)) (x y : Int), (-1073741824 ≤ x ∧ x ≤ 1073741824) → (-1073741824 ≤ y ∧ y ≤ 1073741824) →
    (-1073741824 ≤ (sumL l x y).1 ∧ (sumL l x y).1 ≤ 1073741824) ∧ -1073741824 ≤ (sumL l x y).2.1 ∧ (sumL l x y).2.1 ≤ 1073741824
  | [], x, y, hx, hy => ⟨hx, hy⟩
  | p :: ps, x, y, hx, hy => by
    have h := addF_in x y p.1 p.2
    unfold sumL
    split
    · exact sumL_in ps _ _ h.1 h.2
    · simp

set_option maxRecDepth 100000 in
set_option maxHeartbeats 3200000 in
theorem sum_nil (w : World) :
    Calls Tryd.prog 30 #[.slice none 0 0] w fun e w' => e = .returned (fr (0, 1, 0)) ∧ Below w.heap.size w w' := by
  go_enter Tryd.func30, Tryd.ntmps30
  go_wp2_with fail
  go_loopw [12] (fun v12 wr => v12 = .int .i64 0 ∧ Hid (Has wr (w.heap.size + 1) #[.int .i64 0, .int .i64 1]) ∧ Hid (Has wr w.heap.size #[.int .i64 0, .int .i64 0]) ∧ Hid (Below w.heap.size w wr)) (fun _ _ => 0)
  case atStart =>
    refine ⟨rfl, ?_, ?_, ?_⟩
    · exact Has.new1 w _ _ _
    · exact (Has.new w _ _).alloc _
    · exact (FracB.below_alloc w _).alloc (by simp) _
  case round =>
    obtain ⟨rfl, hA, hR, hD⟩ := hrel
    have A := hA.out
    have R := hR.out
    have D := hD.out
    clear hA hR hD
    obtain ⟨c5, c6, _, _, l2⟩ := A.two
    obtain ⟨c7, c8, f7, f8, l3⟩ := R.two
    go_wp2_with fail
    have r0 := R.put0 (.int .i64 0) (.int .i64 1)
    have r1 := R.put1 (.int .i64 0) (.int .i64 1)
    refine bodyPost_ret (v := fr (0, 1, 0)) (by simp [results, Tryd.results30, go_sem, r0, r1]) rfl ?_
    exact ⟨rfl, by repeat (first | exact D | refine Below.setCell ?_ (by simp) _)⟩

set_option maxRecDepth 100000 in
set_option maxHeartbeats 3200000 in
theorem mean_nil (v : Value) (w : World) (hv : v = .slice none 0 0 ∨ ∃ b off cap, v = .slice (some ⟨b, off, none⟩) 0 cap) :
    Calls Tryd.prog 31 #[v] w fun e w' => e = .returned (fr (0, 0, 13)) ∧ Below w.heap.size w w' := by
  rcases hv with rfl | ⟨b, off, cap, rfl⟩ <;>
  · go_enter Tryd.func31, Tryd.ntmps31
    go_wp2_with fail
    obtain ⟨r0, r1, _, _, _⟩ := (Has.new w 23 #[.int .i64 0, .int .i64 0]).two
    refine bodyPost_ret (v := fr (0, 0, 13)) (by simp [results, Tryd.results31, go_sem, r0, r1]) rfl ?_
    exact ⟨rfl, FracB.below_alloc w _⟩

set_option maxRecDepth 100000 in
set_option maxHeartbeats 3200000 in
theorem mean_some (b off len cap : Nat) (l : List (Int × Int)) (w : World) (hl : l.length = len) (h0 : ¬ len = 0) (hlen : len ≤ 60) (hF : Fr w b off l) :
    Calls Tryd.prog 31 #[.slice (some ⟨b, off, none⟩) len cap] w fun e w' => e = .returned (fr (meanL l)) ∧ Below w.heap.size w w' := by
  have hr := fun w2 (h : Fr w2 b off l) => sum_any b off len cap l w2 hl hlen h
  have hri := sumL_in l 0 1 (by omega) (by omega)
  have hm : meanL l = if (sumL l 0 1).2.2 = 0 then mk (sumL l 0 1).1 ((sumL l 0 1).2.1 * (len : Int)) else (0, 0, (sumL l 0 1).2.2) := by
    unfold meanL
    rw [hl, if_neg h0]
  generalize meanL l = m at hm ⊢
  generalize sumL l 0 1 = r at hr hri hm
  obtain ⟨x, y, z⟩ := r
  dsimp only at hri hm
  have Hr := Lib.hid hr
  have Hm := Lib.hid hm
  clear hr hm
  go_enter Tryd.func31, Tryd.ntmps31
  go_wp2_with fail
  have F0 : Fr (w.alloc (.cells #[.int .i64 0, .int .i64 0] 23)) b off l := hF.below (FracB.below_alloc w _) hF.1
  refine (Hr.out _ F0).mono ?_
  rintro e w2 ⟨rfl, k2⟩
  have R := Has.made k2
  have D := next0 (FracB.below_alloc w _) k2
  clear k2 F0 Hr
  obtain ⟨c5, c6, f5, f6, l2⟩ := R.two
  by_cases hz : z = 0
  case neg =>
    have hz' : (z != 0) = true := by simpa using hz
    have hm := Hm.out
    rw [if_neg hz] at hm
    subst hm
    clear hz Hm
    go_wp2_with fail
    obtain ⟨r0, r1, _, _, _⟩ := ((has_put R (.int .i64 0) (.int .i64 0)).alloc (.cells #[.int .i64 x, .int .i64 y] 23)).two
    refine bodyPost_ret (v := fr (0, 0, z)) (by simp [results, Tryd.results31, go_sem, r0, r1]) rfl ?_
    exact ⟨rfl, ((D.setCell (p := ⟨w.heap.size, 0, none⟩) (by simp) _).setCell (p := ⟨w.heap.size, 1, none⟩) (by simp) _).alloc (by have := D.size; simp; omega) _⟩
  case pos =>
    subst hz
    have hm := Hm.out
    rw [if_pos rfl] at hm
    have hb1 : y * (len : Int) ≤ 1073741824 * 60 := by
      have h1 : y * (len : Int) ≤ 1073741824 * (len : Int) := Int.mul_le_mul_of_nonneg_right hri.2.2 (by omega)
      omega
    have hb0 : -(1073741824 * 60) ≤ y * (len : Int) := by
      have h1 : -1073741824 * (len : Int) ≤ y * (len : Int) := Int.mul_le_mul_of_nonneg_right hri.2.1 (by omega)
      omega
    have Hk := Lib.hid (fun w3 => FracB.make_any x (y * (len : Int)) w3 (by omega) (by omega) (by omega) (by omega))
    rw [← hm] at Hk
    clear hm
    have hw : wrap64 (y * (len : Int)) = y * (len : Int) := by
      generalize y * (len : Int) = q at hb0 hb1
      unfold wrap64
      omega
    go_wp2_with fail
    refine (Hk.out _).mono ?_
    rintro e w3 ⟨rfl, k3⟩
    have R3 := R.step k3
    have D3 := next1 D k3
    clear R D c5 c6 f5 f6 Hk k3
    obtain ⟨c5, c6, f5, f6, l3⟩ := R3.two
    obtain ⟨a1, a2, a3⟩ := m
    go_wp2_with fail
    obtain ⟨r0, r1, _, _, _⟩ := (has_put R3 (.int .i64 a1) (.int .i64 a2)).two
    refine bodyPost_ret (v := fr (a1, a2, a3)) (by simp [results, Tryd.results31, go_sem, r0, r1]) rfl ?_
    exact ⟨rfl, (D3.setCell (p := ⟨w.heap.size, 0, none⟩) (by simp) _).setCell (p := ⟨w.heap.size, 1, none⟩) (by simp) _⟩
end FracV
end Go.Proofs.YtlamemhfnglfeaaDoor
