/- FractionRounds's walk: it returns true, for all fractions and steps, where strconv's table of powers of ten is as laid. -/
import Derived.Test.YtandcmlmklpckabDoorKit
import Derived.Test.YtandcmlmklpckabDoorFracF
import Derived.Test.YtandcmlmklpckabDoorFracO
import Derived.Test.YtandcmlmklpckabDoorFracS2
import Derived.Test.YtandcmlmklpckabDoorFracW
namespace Go.Proofs.YtandcmlmklpckabDoor
open Go Go.RowKit
namespace FracL5
open Kit FracM FracN FracP
open FracB (fr)
open FracT (Tab tab_below)
open FracR (near roundF quo_half)

theorem roundF_zero {n d den : Int} (h : (roundF n d den).2.2 = 0) : vld n d = true ∧ 1 ≤ den ∧ den ≤ 1073741824 ∧ roundF n d den = mk (near (n * den) d) den := by
  unfold roundF at h ⊢
  by_cases v : vld n d = true
  · rw [if_pos v] at h ⊢
    by_cases hd : den < 1 ∨ 1073741824 < den
    · rw [if_pos hd] at h; simp at h
    · rw [if_neg hd]; exact ⟨v, by omega, by omega, rfl⟩
  · rw [if_neg v] at h; simp at h
theorem near_dist (a : Int) {b : Int} (hb : 1 ≤ b) : -b ≤ 2 * (near a b * b - a) ∧ 2 * (near a b * b - a) ≤ b := by
  have h : ∀ m : Int, 0 ≤ m → -b ≤ 2 * ((2 * m + b) / (2 * b) * b - m) ∧ 2 * ((2 * m + b) / (2 * b) * b - m) ≤ b := by
    intro m hm
    have e1 := Int.mul_ediv_add_emod (2 * m + b) (2 * b)
    have r0 := Int.emod_nonneg (2 * m + b) (show 2 * b ≠ 0 by omega)
    have r1 := Int.emod_lt_of_pos (2 * m + b) (show 0 < 2 * b by omega)
    generalize (2 * m + b) / (2 * b) = q at *
    generalize (2 * m + b) % (2 * b) = r at *
    have e2 : 2 * (q * b) = 2 * b * q := by grind
    omega
  unfold near
  split
  · have := h (-a) (by omega)
    have e : -((2 * -a + b) / (2 * b)) * b = -((2 * -a + b) / (2 * b) * b) := by grind
    omega
  · exact h a (by omega)
/-- Twice the difference, compared with one step. -/
theorem half {n d den : Int} (hr : (roundF n d den).2.2 = 0) (hs : (subF (roundF n d den).1 (roundF n d den).2.1 n d).2.2 = 0)
    (hm : (mulF (subF (roundF n d den).1 (roundF n d den).2.1 n d).1 (subF (roundF n d den).1 (roundF n d den).2.1 n d).2.1 2 1).2.2 = 0) :
    let m := mulF (subF (roundF n d den).1 (roundF n d den).2.1 n d).1 (subF (roundF n d den).1 (roundF n d den).2.1 n d).2.1 2 1
    vld m.1 m.2.1 = true ∧ cmpF (-m.1) m.2.1 1 den ≤ 0 ∧ cmpF m.1 m.2.1 1 den ≤ 0 := by
  obtain ⟨v, d1, d2, e⟩ := roundF_zero hr
  have v2 : vld 2 1 = true := by decide
  intro m
  rw [e] at hr hs hm
  have vr := (mk_vld hr).1
  rw [subF_ok vr v] at hs hm
  have vs := (mk_vld hs).1
  rw [mulF_ok vs v2] at hm
  have vm := (mk_vld hm).1
  have em : m = mk ((mk ((mk (near (n * den) d) den).1 * d - n * (mk (near (n * den) d) den).2.1) ((mk (near (n * den) d) den).2.1 * d)).1 * 2) ((mk ((mk (near (n * den) d) den).1 * d - n * (mk (near (n * den) d) den).2.1) ((mk (near (n * den) d) den).2.1 * d)).2.1 * 1) := by
    show mulF _ _ 2 1 = _
    rw [e, subF_ok vr v, mulF_ok vs v2]
  have c1 := mk_cross hr
  have c2 := mk_cross hs
  have c3 := mk_cross hm
  rw [em]
  have nd := near_dist (n * den) (vld_in v).2.2
  have := round_near (vld_in v).2.2 (den_ne vr) (den_ne vs) (by have := (vld_in vm).2.2; omega) c1 c2 c3 nd.1 nd.2
  refine ⟨vm, ?_, ?_⟩
  · rw [cmp_le]; exact this.1
  · rw [cmp_le]; exact this.2

set_option maxRecDepth 100000 in
set_option maxHeartbeats 6400000 in
theorem rounds (n d k : Int) (w : World) (hn0 : -9223372036854775808 ≤ n) (hn1 : n ≤ 9223372036854775807) (hd0 : -9223372036854775808 ≤ d) (hd1 : d ≤ 9223372036854775807) (ht : Tab w) :
    Calls Tryd.prog 3 #[.agg #[.int .i64 n, .int .i64 d], .int .i64 k] w fun e w' => e = .returned (.bool true) ∧ Below w.heap.size w w' := by
  have hz := half (n := n) (d := d) (den := k)
  have hk : (roundF n d k).2.2 = 0 → 1 ≤ k ∧ k ≤ 1073741824 := fun h => ⟨(roundF_zero h).2.1, (roundF_zero h).2.2.1⟩
  have q1 := fun w2 => FracR.round_any n d k w2 hn0 hn1 hd0 hd1
  have q2 := fun w2 => FracS2.round_any n d k w2 hn0 hn1 hd0 hd1
  have hrin := FracS2.roundF_in n d k
  generalize roundF n d k = r at q1 q2 hz hk hrin
  obtain ⟨r1, r2, rz⟩ := r
  dsimp only at hrin hk
  have q3 := fun w2 => FracF.sub_any r1 r2 n d w2 (by omega) (by omega) (by omega) (by omega) hn0 hn1 hd0 hd1
  have hsin := FracS2.subF_in r1 r2 n d
  generalize subF r1 r2 n d = s at q3 hz hsin
  obtain ⟨s1, s2, sz⟩ := s
  dsimp only at hsin
  have q4 := fun w2 => FracF.mul_any s1 s2 2 1 w2 (by omega) (by omega) (by omega) (by omega) (by omega) (by omega) (by omega) (by omega)
  have hmin := FracS2.mulF_in s1 s2 2 1
  generalize mulF s1 s2 2 1 = m at q4 hz hmin
  obtain ⟨m1, m2, mz⟩ := m
  dsimp only at hmin hz
  have Q1 := Lib.hid q1
  have Q2 := Lib.hid q2
  have Q3 := Lib.hid q3
  have Q4 := Lib.hid q4
  clear q1 q2 q3 q4
  by_cases hr : rz = 0
  case neg =>
    have hr' : (rz != 0) = true := by simpa using hr
    clear hz hk hr
    go_enter Tryd.func3, Tryd.ntmps3
    go_wp2_with fail
    refine (Q1.out _).mono ?_
    rintro e w1 ⟨rfl, k1⟩
    have A := (Has.new w 23 #[.int .i64 n, .int .i64 d]).below k1 (by simp)
    have D := (below_alloc w _).trans (k1.mono (by simp))
    clear k1
    obtain ⟨c1, c2, _, _, _⟩ := A.two
    go_wp2_with fail
    clear c1 c2
    refine (Q2.out _).mono ?_
    rintro e w2 ⟨rfl, k2⟩
    replace A := A.step k2
    have R1 := Has.made k2
    replace D := next1 D k2
    clear k2
    obtain ⟨c1, c2, _, _, _⟩ := A.two
    obtain ⟨c3, c4, _, _, _⟩ := R1.two
    go_wp2_with fail
    clear c1 c2 c3 c4
    refine (FracW.awake_any _ (tab_below ht (next0 D (below_alloc _ _)))).mono ?_
    rintro e w3 ⟨rfl, k3⟩
    replace A := A.step k3
    replace R1 := R1.step k3
    have R2 := Has.made k3
    replace D := next1 D k3
    clear k3
    obtain ⟨c1, c2, _, _, _⟩ := A.two
    obtain ⟨c3, c4, _, _, _⟩ := R1.two
    obtain ⟨c5, c6, _, _, _⟩ := R2.two
    go_wp2_with fail
    go_ret
    exact ⟨rfl, D⟩
  case pos =>
  subst hr
  obtain ⟨k1', k2'⟩ := hk rfl
  clear hk
  by_cases hs : sz = 0
  case neg =>
    have hs' : (sz != 0) = true := by simpa using hs
    clear hz hs
    go_enter Tryd.func3, Tryd.ntmps3
    go_wp2_with fail
    refine (Q1.out _).mono ?_
    rintro e w1 ⟨rfl, k1⟩
    have A := (Has.new w 23 #[.int .i64 n, .int .i64 d]).below k1 (by simp)
    have D := (below_alloc w _).trans (k1.mono (by simp))
    clear k1
    obtain ⟨c1, c2, _, _, _⟩ := A.two
    go_wp2_with fail
    clear c1 c2
    refine (Q2.out _).mono ?_
    rintro e w2 ⟨rfl, k2⟩
    replace A := A.step k2
    have R1 := Has.made k2
    replace D := next1 D k2
    clear k2
    obtain ⟨c1, c2, _, _, _⟩ := A.two
    obtain ⟨c3, c4, _, _, _⟩ := R1.two
    go_wp2_with fail
    clear c1 c2 c3 c4
    refine (Q3.out _).mono ?_
    rintro e w3 ⟨rfl, k3⟩
    replace A := A.step k3
    replace R1 := R1.step k3
    have R2 := Has.made k3
    replace D := next1 D k3
    clear k3
    obtain ⟨c1, c2, _, _, _⟩ := A.two
    obtain ⟨c3, c4, _, _, _⟩ := R1.two
    obtain ⟨c5, c6, _, _, _⟩ := R2.two
    go_wp2_with fail
    clear c1 c2 c3 c4 c5 c6
    refine (FracW.awake_any _ (tab_below ht (next0 D (below_alloc _ _)))).mono ?_
    rintro e w4 ⟨rfl, k4⟩
    replace A := A.step k4
    replace R1 := R1.step k4
    replace R2 := R2.step k4
    have R3 := Has.made k4
    replace D := next1 D k4
    clear k4
    obtain ⟨c1, c2, _, _, _⟩ := A.two
    obtain ⟨c3, c4, _, _, _⟩ := R1.two
    obtain ⟨c5, c6, _, _, _⟩ := R2.two
    obtain ⟨c7, c8, _, _, _⟩ := R3.two
    go_wp2_with fail
    go_ret
    exact ⟨rfl, D⟩
  case pos =>
  subst hs
  by_cases hm : mz = 0
  case neg =>
    have hm' : (mz != 0) = true := by simpa using hm
    clear hz hm
    go_enter Tryd.func3, Tryd.ntmps3
    go_wp2_with fail
    refine (Q1.out _).mono ?_
    rintro e w1 ⟨rfl, k1⟩
    have A := (Has.new w 23 #[.int .i64 n, .int .i64 d]).below k1 (by simp)
    have D := (below_alloc w _).trans (k1.mono (by simp))
    clear k1
    obtain ⟨c1, c2, _, _, _⟩ := A.two
    go_wp2_with fail
    clear c1 c2
    refine (Q2.out _).mono ?_
    rintro e w2 ⟨rfl, k2⟩
    replace A := A.step k2
    have R1 := Has.made k2
    replace D := next1 D k2
    clear k2
    obtain ⟨c1, c2, _, _, _⟩ := A.two
    obtain ⟨c3, c4, _, _, _⟩ := R1.two
    go_wp2_with fail
    clear c1 c2 c3 c4
    refine (Q3.out _).mono ?_
    rintro e w3 ⟨rfl, k3⟩
    replace A := A.step k3
    replace R1 := R1.step k3
    have R2 := Has.made k3
    replace D := next1 D k3
    clear k3
    obtain ⟨c1, c2, _, _, _⟩ := A.two
    obtain ⟨c3, c4, _, _, _⟩ := R1.two
    obtain ⟨c5, c6, _, _, _⟩ := R2.two
    go_wp2_with fail
    have dsz := D.size
    clear c1 c2 c3 c4 c5 c6
    refine (Q4.out _).mono ?_
    rintro e w4 ⟨rfl, k4⟩
    have R3 := Has.made k4
    replace D := next1 D k4
    have z4 := lt1 k4
    clear k4 A R1 R2
    obtain ⟨c1, c2, f1, f2, l1⟩ := R3.two
    go_wp2_with fail
    have D2 := (D.setCell (p := ⟨w3.heap.size, 0, none⟩) dsz (.int .i64 m1)).setCell (p := ⟨w3.heap.size, 1, none⟩) dsz (.int .i64 m2)
    refine (FracW.awake_any _ (tab_below ht D2)).mono ?_
    rintro e w5 ⟨rfl, k5⟩
    go_wp2_with fail
    go_ret
    exact ⟨rfl, next0 D2 k5⟩
  case pos =>
  subst hm
  obtain ⟨vm, g1, g2⟩ := hz rfl rfl rfl
  try dsimp only at vm g1 g2
  clear hz
  have vmi := vld_in vm
  clear vm
  by_cases hneg : m1 < 0
  case neg =>
    have q5 := fun w2 => FracO.compare_any m1 m2 1 k w2 (by omega) (by omega) (by omega) (by omega)
    clear g1
    generalize cmpF m1 m2 1 k = X at q5 g2
    have Q5 := Lib.hid q5
    clear q5
    go_enter Tryd.func3, Tryd.ntmps3
    go_wp2_with fail
    refine (Q1.out _).mono ?_
    rintro e w1 ⟨rfl, k1⟩
    have A := (Has.new w 23 #[.int .i64 n, .int .i64 d]).below k1 (by simp)
    have D := (below_alloc w _).trans (k1.mono (by simp))
    clear k1
    obtain ⟨c1, c2, _, _, _⟩ := A.two
    go_wp2_with fail
    clear c1 c2
    refine (Q2.out _).mono ?_
    rintro e w2 ⟨rfl, k2⟩
    replace A := A.step k2
    have R1 := Has.made k2
    replace D := next1 D k2
    clear k2
    obtain ⟨c1, c2, _, _, _⟩ := A.two
    obtain ⟨c3, c4, _, _, _⟩ := R1.two
    go_wp2_with fail
    clear c1 c2 c3 c4
    refine (Q3.out _).mono ?_
    rintro e w3 ⟨rfl, k3⟩
    replace A := A.step k3
    replace R1 := R1.step k3
    have R2 := Has.made k3
    replace D := next1 D k3
    clear k3
    obtain ⟨c1, c2, _, _, _⟩ := A.two
    obtain ⟨c3, c4, _, _, _⟩ := R1.two
    obtain ⟨c5, c6, _, _, _⟩ := R2.two
    go_wp2_with fail
    have dsz := D.size
    clear c1 c2 c3 c4 c5 c6
    refine (Q4.out _).mono ?_
    rintro e w4 ⟨rfl, k4⟩
    have R3 := Has.made k4
    replace D := next1 D k4
    have z4 := lt1 k4
    clear k4 A R1 R2
    obtain ⟨c1, c2, f1, f2, l1⟩ := R3.two
    go_wp2_with fail
    have D2 := (D.setCell (p := ⟨w3.heap.size, 0, none⟩) dsz (.int .i64 m1)).setCell (p := ⟨w3.heap.size, 1, none⟩) dsz (.int .i64 m2)
    refine (Q5.out _).mono ?_
    rintro e w5 ⟨rfl, k5⟩
    have D3 := next0 D2 k5
    go_wp2_with fail
    refine (FracW.awake_any _ (tab_below ht D3)).mono ?_
    rintro e w6 ⟨rfl, k6⟩
    go_wp2_with fail
    go_ret
    exact ⟨rfl, next0 D3 k6⟩
  case pos =>
    have q5 := fun w2 => FracO.compare_any (-m1) m2 1 k w2 (by omega) (by omega) (by omega) (by omega)
    clear g2
    generalize cmpF (-m1) m2 1 k = X at q5 g1
    have Q5 := Lib.hid q5
    clear q5
    go_enter Tryd.func3, Tryd.ntmps3
    go_wp2_with fail
    refine (Q1.out _).mono ?_
    rintro e w1 ⟨rfl, k1⟩
    have A := (Has.new w 23 #[.int .i64 n, .int .i64 d]).below k1 (by simp)
    have D := (below_alloc w _).trans (k1.mono (by simp))
    clear k1
    obtain ⟨c1, c2, _, _, _⟩ := A.two
    go_wp2_with fail
    clear c1 c2
    refine (Q2.out _).mono ?_
    rintro e w2 ⟨rfl, k2⟩
    replace A := A.step k2
    have R1 := Has.made k2
    replace D := next1 D k2
    clear k2
    obtain ⟨c1, c2, _, _, _⟩ := A.two
    obtain ⟨c3, c4, _, _, _⟩ := R1.two
    go_wp2_with fail
    clear c1 c2 c3 c4
    refine (Q3.out _).mono ?_
    rintro e w3 ⟨rfl, k3⟩
    replace A := A.step k3
    replace R1 := R1.step k3
    have R2 := Has.made k3
    replace D := next1 D k3
    clear k3
    obtain ⟨c1, c2, _, _, _⟩ := A.two
    obtain ⟨c3, c4, _, _, _⟩ := R1.two
    obtain ⟨c5, c6, _, _, _⟩ := R2.two
    go_wp2_with fail
    have dsz := D.size
    clear c1 c2 c3 c4 c5 c6
    refine (Q4.out _).mono ?_
    rintro e w4 ⟨rfl, k4⟩
    have R3 := Has.made k4
    replace D := next1 D k4
    have z4 := lt1 k4
    clear k4 A R1 R2
    obtain ⟨c1, c2, f1, f2, l1⟩ := R3.two
    go_wp2_with fail
    have D2 := ((D.setCell (p := ⟨w3.heap.size, 0, none⟩) dsz (.int .i64 m1)).setCell (p := ⟨w3.heap.size, 1, none⟩) dsz (.int .i64 m2)).setCell (p := ⟨w3.heap.size, 0, none⟩) dsz (.int .i64 (-m1))
    refine (Q5.out _).mono ?_
    rintro e w5 ⟨rfl, k5⟩
    have D3 := next0 D2 k5
    go_wp2_with fail
    refine (FracW.awake_any _ (tab_below ht D3)).mono ?_
    rintro e w6 ⟨rfl, k6⟩
    go_wp2_with fail
    go_ret
    exact ⟨rfl, next0 D3 k6⟩
end FracL5
end Go.Proofs.YtandcmlmklpckabDoor
