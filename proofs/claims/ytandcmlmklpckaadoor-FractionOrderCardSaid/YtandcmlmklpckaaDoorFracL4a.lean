/- FractionOrder's walk, where the first fraction is less than the second. -/
import Derived.Test.YtandcmlmklpckaaDoorFracL4
namespace Go.Proofs.YtandcmlmklpckaaDoor
open Go Go.RowKit
namespace FracL4
open Kit FracM FracN FracP
open FracB (fr)
open FracT (Tab tab_below)

set_option maxRecDepth 100000 in
set_option maxHeartbeats 12800000 in
theorem order_neg (a b c d e f : Int) (w : World) (h1 : vld a b = true) (h2 : vld c d = true) (h3 : vld e f = true) (hx : cmpF a b c d = -1) (ht : Tab w) :
    Calls Tryd.prog 13 #[.agg #[.int .i64 a, .int .i64 b], .agg #[.int .i64 c, .int .i64 d], .agg #[.int .i64 e, .int .i64 f]] w fun e w' => e = .returned (.bool true) ∧ Below w.heap.size w w' := by
  have P1 := Lib.hid (fun w2 => valid_at h1 w2)
  have P2 := Lib.hid (fun w2 => valid_at h2 w2)
  have P3 := Lib.hid (fun w2 => valid_at h3 w2)
  obtain ⟨i1, i2, _⟩ := vld_in h1
  obtain ⟨i3, i4, _⟩ := vld_in h2
  obtain ⟨i5, i6, _⟩ := vld_in h3
  have gx := fun w2 => FracO.compare_any a b c d w2 i1 i2 i3 i4
  have gr := fun w2 => FracO2.refcmp_any a b c d w2 i1 i2 i3 i4
  have gn := fun w2 => FracO.compare_any c d a b w2 i3 i4 i1 i2
  have gy := fun w2 => FracO.compare_any c d e f w2 i3 i4 i5 i6
  have gz := fun w2 => FracO.compare_any a b e f w2 i1 i2 i5 i6
  have gs := fun w2 => sub_at h2 h1 w2
  have g1 := fun w2 => FracO2.min_any a b c d w2 i1 i2 i3 i4
  have g2 := fun w2 => FracO2.refmin_any a b c d w2 i1 i2 i3 i4
  have g3 := fun w2 => FracO2.max_any a b c d w2 i1 i2 i3 i4
  have g4 := fun w2 => FracO2.refmax_any a b c d w2 i1 i2 i3 i4
  have hsw := cmp_swap a b c d
  rw [hx] at gx gr hsw
  rw [hsw] at gn
  generalize FracO2.minF a b c d = p at g1 g2
  generalize FracO2.maxF a b c d = q at g3 g4
  obtain ⟨p1, p2⟩ := p
  obtain ⟨q1, q2⟩ := q
  have hne : ¬ (a = c ∧ b = d) := by
    rintro ⟨rfl, rfl⟩
    have : cmpF a b a b = 0 := by simp [cmpF]
    rw [hx] at this
    omega
  have hss := sub_sign h1 h2
  generalize subF c d a b = s at gs hss
  obtain ⟨s1, s2, sz⟩ := s
  have hsg : sz = 0 → 0 < s1 := fun h => (hss h).2 (cmp_neg.1 (by omega))
  have htr : cmpF c d e f ≤ 0 → cmpF a b e f ≤ 0 := fun h => cmp_trans h1 h2 h3 (by omega) h
  have hsw : cmpF c d a b = 1 := by rw [hsw]; rfl
  generalize cmpF c d e f = Y at gy htr
  generalize cmpF a b e f = Z at gz htr
  have HX := Lib.hid gx
  have HR := Lib.hid gr
  have HN := Lib.hid gn
  have HY := Lib.hid gy
  have HZ := Lib.hid gz
  have HS := Lib.hid gs
  have HM1 := Lib.hid g1
  have HM2 := Lib.hid g2
  have HM3 := Lib.hid g3
  have HM4 := Lib.hid g4
  clear gx gr gn gy gz gs g1 g2 g3 g4 hsw h1 h2 h3 i1 i2 i3 i4 i5 i6 hx
  have hE : (¬ a = c) ∨ (a = c ∧ ¬ b = d) := by
    by_cases h : a = c
    · exact Or.inr ⟨h, fun h2 => hne ⟨h, h2⟩⟩
    · exact Or.inl h
  clear hne
  have hZ' : (sz = 0 ∧ 0 < s1) ∨ (sz == 0) = false := by
    by_cases h : sz = 0
    · exact Or.inl ⟨h, hsg h⟩
    · exact Or.inr (by simpa using h)
  clear hss hsg
  have hY : (Y ≤ 0 ∧ Z ≤ 0) ∨ 0 < Y := by
    by_cases h : Y ≤ 0
    · exact Or.inl ⟨h, htr h⟩
    · exact Or.inr (by omega)
  clear htr
  rcases hE with hE | ⟨hE, hE2⟩
  · rcases hZ' with ⟨rfl, hs⟩ | hs
    all_goals
      rcases hY with ⟨y1, y2⟩ | y1
      all_goals
        go_enter Tryd.func13, Tryd.ntmps13
        go_wp2_with fail
        refine (P1.out _).mono ?_
        rintro e w1 ⟨rfl, k1⟩
        have A := (((Has.new w 46 #[.int .i64 a, .int .i64 b]).alloc (.cells #[.int .i64 c, .int .i64 d] 46)).alloc (.cells #[.int .i64 e, .int .i64 f] 46)).below k1 (by simp <;> omega)
        have B := ((Has.new1 w (.cells #[.int .i64 a, .int .i64 b] 46) 46 #[.int .i64 c, .int .i64 d]).alloc (.cells #[.int .i64 e, .int .i64 f] 46)).below k1 (by simp <;> omega)
        have C := (Has.new2 w (.cells #[.int .i64 a, .int .i64 b] 46) (.cells #[.int .i64 c, .int .i64 d] 46) 46 #[.int .i64 e, .int .i64 f]).below k1 (by simp)
        have D := (((below_alloc w _).alloc (by simp) _).alloc (by simp <;> omega) _).trans (k1.mono (by simp <;> omega))
        clear k1
        obtain ⟨c1, c2, _, _, _⟩ := A.two
        obtain ⟨c3, c4, _, _, _⟩ := B.two
        obtain ⟨c5, c6, _, _, _⟩ := C.two
        go_wp2_with fail
        clear c1 c2 c3 c4 c5 c6
        refine (P2.out _).mono ?_
        rintro e w2 ⟨rfl, k2⟩
        replace A := A.step0 k2
        replace B := B.step0 k2
        replace C := C.step0 k2
        replace D := next0 D k2
        clear k2
        obtain ⟨c1, c2, _, _, _⟩ := A.two
        obtain ⟨c3, c4, _, _, _⟩ := B.two
        obtain ⟨c5, c6, _, _, _⟩ := C.two
        go_wp2_with fail
        clear c1 c2 c3 c4 c5 c6
        refine (P3.out _).mono ?_
        rintro e w3 ⟨rfl, k3⟩
        replace A := A.step0 k3
        replace B := B.step0 k3
        replace C := C.step0 k3
        replace D := next0 D k3
        clear k3
        obtain ⟨c1, c2, _, _, _⟩ := A.two
        obtain ⟨c3, c4, _, _, _⟩ := B.two
        obtain ⟨c5, c6, _, _, _⟩ := C.two
        go_wp2_with fail
        have hk3 : K3 w a b c d e f w3.drew := ⟨D.drew, tab_below ht D.drew, A.drew, B.drew, C.drew⟩
        have HL := Lib.hid (fun g args v w1' => @lift3 Tryd.prog g args v w w1' a b c d e f)
        clear c1 c2 c3 c4 c5 c6
        go_region_held3 (fun w' => w'.cell? ⟨w.heap.size, 0, none⟩ = some (.int .i64 a) ∧ w'.cell? ⟨w.heap.size, 1, none⟩ = some (.int .i64 b) ∧ w'.cell? ⟨w.heap.size + 1, 0, none⟩ = some (.int .i64 c) ∧ w'.cell? ⟨w.heap.size + 1, 1, none⟩ = some (.int .i64 d) ∧ w'.cell? ⟨w.heap.size + 1 + 1, 0, none⟩ = some (.int .i64 e) ∧ w'.cell? ⟨w.heap.size + 1 + 1, 1, none⟩ = some (.int .i64 f) ∧ Hid (K3 w a b c d e f w'))
          (first | exact s3_of hk3 | exact ⟨‹_›, ‹_›, ‹_›, ‹_›, ‹_›, ‹_›, ‹_›⟩)
          (first | (go_at_call 63; go_split_ands; (first | (with_reducible refine (HL.out _ _ _ _ ⟨‹_›, ‹_›, ‹_›, ‹_›, ‹_›, ‹_›, ‹_›⟩ (fun _ => HX.out _)).mono ?_) | (with_reducible refine (HL.out _ _ _ _ ⟨‹_›, ‹_›, ‹_›, ‹_›, ‹_›, ‹_›, ‹_›⟩ (fun _ => HY.out _)).mono ?_) | (with_reducible refine (HL.out _ _ _ _ ⟨‹_›, ‹_›, ‹_›, ‹_›, ‹_›, ‹_›, ‹_›⟩ (fun _ => HZ.out _)).mono ?_)); rintro e w' ⟨rfl, q1, q2, q3, q4, q5, q6, q7⟩))
        clear hk3 A B C D
        obtain ⟨D, _, A, B, C⟩ := q7.out
        go_wp2_with fail
        clear q1 q2 q3 q4 q5 q6
        refine (HR.out _).mono ?_
        rintro e w4 ⟨rfl, k4⟩
        replace A := A.step0 k4
        replace B := B.step0 k4
        replace C := C.step0 k4
        replace D := next0 D k4
        clear k4
        obtain ⟨c1, c2, _, _, _⟩ := A.two
        obtain ⟨c3, c4, _, _, _⟩ := B.two
        obtain ⟨c5, c6, _, _, _⟩ := C.two
        go_wp2_with fail
        clear c1 c2 c3 c4 c5 c6
        refine (HN.out _).mono ?_
        rintro e w5 ⟨rfl, k5⟩
        replace A := A.step0 k5
        replace B := B.step0 k5
        replace C := C.step0 k5
        replace D := next0 D k5
        clear k5
        obtain ⟨c1, c2, _, _, _⟩ := A.two
        obtain ⟨c3, c4, _, _, _⟩ := B.two
        obtain ⟨c5, c6, _, _, _⟩ := C.two
        go_wp2_with fail
        clear c1 c2 c3 c4 c5 c6
        refine (HS.out _).mono ?_
        rintro e w6 ⟨rfl, k6⟩
        replace A := A.step0 k6
        replace B := B.step0 k6
        replace C := C.step0 k6
        replace D := next0 D k6
        clear k6
        obtain ⟨c1, c2, _, _, _⟩ := A.two
        obtain ⟨c3, c4, _, _, _⟩ := B.two
        obtain ⟨c5, c6, _, _, _⟩ := C.two
        go_wp2_with fail
        have hk3 : K3 w a b c d e f (w6.alloc (.cells #[.int .i64 s1, .int .i64 s2] 46)).drew := ⟨(next0 D (below_alloc _ _)).drew, tab_below ht (next0 D (below_alloc _ _)).drew, (A.alloc _).drew, (B.alloc _).drew, (C.alloc _).drew⟩
        clear c1 c2 c3 c4 c5 c6
        go_region_held3 (fun w' => w'.cell? ⟨w.heap.size, 0, none⟩ = some (.int .i64 a) ∧ w'.cell? ⟨w.heap.size, 1, none⟩ = some (.int .i64 b) ∧ w'.cell? ⟨w.heap.size + 1, 0, none⟩ = some (.int .i64 c) ∧ w'.cell? ⟨w.heap.size + 1, 1, none⟩ = some (.int .i64 d) ∧ w'.cell? ⟨w.heap.size + 1 + 1, 0, none⟩ = some (.int .i64 e) ∧ w'.cell? ⟨w.heap.size + 1 + 1, 1, none⟩ = some (.int .i64 f) ∧ Hid (K3 w a b c d e f w'))
          (first | exact s3_of hk3 | exact ⟨‹_›, ‹_›, ‹_›, ‹_›, ‹_›, ‹_›, ‹_›⟩)
          (first | (go_at_call 65; go_split_ands; (first | (with_reducible refine (HL.out _ _ _ _ ⟨‹_›, ‹_›, ‹_›, ‹_›, ‹_›, ‹_›, ‹_›⟩ (fun _ => HM1.out _)).mono ?_)); rintro e w' ⟨rfl, q1, q2, q3, q4, q5, q6, q7⟩) | (go_at_call 66; go_split_ands; (first | (with_reducible refine (HL.out _ _ _ _ ⟨‹_›, ‹_›, ‹_›, ‹_›, ‹_›, ‹_›, ‹_›⟩ (fun _ => HM2.out _)).mono ?_)); rintro e w' ⟨rfl, q1, q2, q3, q4, q5, q6, q7⟩) | (go_at_call 67; go_split_ands; (first | (with_reducible refine (HL.out _ _ _ _ ⟨‹_›, ‹_›, ‹_›, ‹_›, ‹_›, ‹_›, ‹_›⟩ (fun _ => HM3.out _)).mono ?_)); rintro e w' ⟨rfl, q1, q2, q3, q4, q5, q6, q7⟩) | (go_at_call 68; go_split_ands; (first | (with_reducible refine (HL.out _ _ _ _ ⟨‹_›, ‹_›, ‹_›, ‹_›, ‹_›, ‹_›, ‹_›⟩ (fun _ => HM4.out _)).mono ?_)); rintro e w' ⟨rfl, q1, q2, q3, q4, q5, q6, q7⟩) | (go_at_call 53; go_split_ands; with_reducible refine (HL.out _ _ _ _ ⟨‹_›, ‹_›, ‹_›, ‹_›, ‹_›, ‹_›, ‹_›⟩ (fun ht => FracW.awake_any _ ht)).mono ?_; rintro e w' ⟨rfl, q1, q2, q3, q4, q5, q6, q7⟩))
        all_goals go_wp2
        all_goals go_ret
        all_goals exact ⟨rfl, q7.out.1⟩
  · subst hE
    rcases hZ' with ⟨rfl, hs⟩ | hs
    all_goals
      rcases hY with ⟨y1, y2⟩ | y1
      all_goals
        go_enter Tryd.func13, Tryd.ntmps13
        go_wp2_with fail
        refine (P1.out _).mono ?_
        rintro e w1 ⟨rfl, k1⟩
        have A := (((Has.new w 46 #[.int .i64 a, .int .i64 b]).alloc (.cells #[.int .i64 a, .int .i64 d] 46)).alloc (.cells #[.int .i64 e, .int .i64 f] 46)).below k1 (by simp <;> omega)
        have B := ((Has.new1 w (.cells #[.int .i64 a, .int .i64 b] 46) 46 #[.int .i64 a, .int .i64 d]).alloc (.cells #[.int .i64 e, .int .i64 f] 46)).below k1 (by simp <;> omega)
        have C := (Has.new2 w (.cells #[.int .i64 a, .int .i64 b] 46) (.cells #[.int .i64 a, .int .i64 d] 46) 46 #[.int .i64 e, .int .i64 f]).below k1 (by simp)
        have D := (((below_alloc w _).alloc (by simp) _).alloc (by simp <;> omega) _).trans (k1.mono (by simp <;> omega))
        clear k1
        obtain ⟨c1, c2, _, _, _⟩ := A.two
        obtain ⟨c3, c4, _, _, _⟩ := B.two
        obtain ⟨c5, c6, _, _, _⟩ := C.two
        go_wp2_with fail
        clear c1 c2 c3 c4 c5 c6
        refine (P2.out _).mono ?_
        rintro e w2 ⟨rfl, k2⟩
        replace A := A.step0 k2
        replace B := B.step0 k2
        replace C := C.step0 k2
        replace D := next0 D k2
        clear k2
        obtain ⟨c1, c2, _, _, _⟩ := A.two
        obtain ⟨c3, c4, _, _, _⟩ := B.two
        obtain ⟨c5, c6, _, _, _⟩ := C.two
        go_wp2_with fail
        clear c1 c2 c3 c4 c5 c6
        refine (P3.out _).mono ?_
        rintro e w3 ⟨rfl, k3⟩
        replace A := A.step0 k3
        replace B := B.step0 k3
        replace C := C.step0 k3
        replace D := next0 D k3
        clear k3
        obtain ⟨c1, c2, _, _, _⟩ := A.two
        obtain ⟨c3, c4, _, _, _⟩ := B.two
        obtain ⟨c5, c6, _, _, _⟩ := C.two
        go_wp2_with fail
        have hk3 : K3 w a b a d e f w3.drew := ⟨D.drew, tab_below ht D.drew, A.drew, B.drew, C.drew⟩
        have HL := Lib.hid (fun g args v w1' => @lift3 Tryd.prog g args v w w1' a b a d e f)
        clear c1 c2 c3 c4 c5 c6
        go_region_held3 (fun w' => w'.cell? ⟨w.heap.size, 0, none⟩ = some (.int .i64 a) ∧ w'.cell? ⟨w.heap.size, 1, none⟩ = some (.int .i64 b) ∧ w'.cell? ⟨w.heap.size + 1, 0, none⟩ = some (.int .i64 a) ∧ w'.cell? ⟨w.heap.size + 1, 1, none⟩ = some (.int .i64 d) ∧ w'.cell? ⟨w.heap.size + 1 + 1, 0, none⟩ = some (.int .i64 e) ∧ w'.cell? ⟨w.heap.size + 1 + 1, 1, none⟩ = some (.int .i64 f) ∧ Hid (K3 w a b a d e f w'))
          (first | exact s3_of hk3 | exact ⟨‹_›, ‹_›, ‹_›, ‹_›, ‹_›, ‹_›, ‹_›⟩)
          (first | (go_at_call 63; go_split_ands; (first | (with_reducible refine (HL.out _ _ _ _ ⟨‹_›, ‹_›, ‹_›, ‹_›, ‹_›, ‹_›, ‹_›⟩ (fun _ => HX.out _)).mono ?_) | (with_reducible refine (HL.out _ _ _ _ ⟨‹_›, ‹_›, ‹_›, ‹_›, ‹_›, ‹_›, ‹_›⟩ (fun _ => HY.out _)).mono ?_) | (with_reducible refine (HL.out _ _ _ _ ⟨‹_›, ‹_›, ‹_›, ‹_›, ‹_›, ‹_›, ‹_›⟩ (fun _ => HZ.out _)).mono ?_)); rintro e w' ⟨rfl, q1, q2, q3, q4, q5, q6, q7⟩))
        clear hk3 A B C D
        obtain ⟨D, _, A, B, C⟩ := q7.out
        go_wp2_with fail
        clear q1 q2 q3 q4 q5 q6
        refine (HR.out _).mono ?_
        rintro e w4 ⟨rfl, k4⟩
        replace A := A.step0 k4
        replace B := B.step0 k4
        replace C := C.step0 k4
        replace D := next0 D k4
        clear k4
        obtain ⟨c1, c2, _, _, _⟩ := A.two
        obtain ⟨c3, c4, _, _, _⟩ := B.two
        obtain ⟨c5, c6, _, _, _⟩ := C.two
        go_wp2_with fail
        clear c1 c2 c3 c4 c5 c6
        refine (HN.out _).mono ?_
        rintro e w5 ⟨rfl, k5⟩
        replace A := A.step0 k5
        replace B := B.step0 k5
        replace C := C.step0 k5
        replace D := next0 D k5
        clear k5
        obtain ⟨c1, c2, _, _, _⟩ := A.two
        obtain ⟨c3, c4, _, _, _⟩ := B.two
        obtain ⟨c5, c6, _, _, _⟩ := C.two
        go_wp2_with fail
        clear c1 c2 c3 c4 c5 c6
        refine (HS.out _).mono ?_
        rintro e w6 ⟨rfl, k6⟩
        replace A := A.step0 k6
        replace B := B.step0 k6
        replace C := C.step0 k6
        replace D := next0 D k6
        clear k6
        obtain ⟨c1, c2, _, _, _⟩ := A.two
        obtain ⟨c3, c4, _, _, _⟩ := B.two
        obtain ⟨c5, c6, _, _, _⟩ := C.two
        go_wp2_with fail
        have hk3 : K3 w a b a d e f (w6.alloc (.cells #[.int .i64 s1, .int .i64 s2] 46)).drew := ⟨(next0 D (below_alloc _ _)).drew, tab_below ht (next0 D (below_alloc _ _)).drew, (A.alloc _).drew, (B.alloc _).drew, (C.alloc _).drew⟩
        clear c1 c2 c3 c4 c5 c6
        go_region_held3 (fun w' => w'.cell? ⟨w.heap.size, 0, none⟩ = some (.int .i64 a) ∧ w'.cell? ⟨w.heap.size, 1, none⟩ = some (.int .i64 b) ∧ w'.cell? ⟨w.heap.size + 1, 0, none⟩ = some (.int .i64 a) ∧ w'.cell? ⟨w.heap.size + 1, 1, none⟩ = some (.int .i64 d) ∧ w'.cell? ⟨w.heap.size + 1 + 1, 0, none⟩ = some (.int .i64 e) ∧ w'.cell? ⟨w.heap.size + 1 + 1, 1, none⟩ = some (.int .i64 f) ∧ Hid (K3 w a b a d e f w'))
          (first | exact s3_of hk3 | exact ⟨‹_›, ‹_›, ‹_›, ‹_›, ‹_›, ‹_›, ‹_›⟩)
          (first | (go_at_call 65; go_split_ands; (first | (with_reducible refine (HL.out _ _ _ _ ⟨‹_›, ‹_›, ‹_›, ‹_›, ‹_›, ‹_›, ‹_›⟩ (fun _ => HM1.out _)).mono ?_)); rintro e w' ⟨rfl, q1, q2, q3, q4, q5, q6, q7⟩) | (go_at_call 66; go_split_ands; (first | (with_reducible refine (HL.out _ _ _ _ ⟨‹_›, ‹_›, ‹_›, ‹_›, ‹_›, ‹_›, ‹_›⟩ (fun _ => HM2.out _)).mono ?_)); rintro e w' ⟨rfl, q1, q2, q3, q4, q5, q6, q7⟩) | (go_at_call 67; go_split_ands; (first | (with_reducible refine (HL.out _ _ _ _ ⟨‹_›, ‹_›, ‹_›, ‹_›, ‹_›, ‹_›, ‹_›⟩ (fun _ => HM3.out _)).mono ?_)); rintro e w' ⟨rfl, q1, q2, q3, q4, q5, q6, q7⟩) | (go_at_call 68; go_split_ands; (first | (with_reducible refine (HL.out _ _ _ _ ⟨‹_›, ‹_›, ‹_›, ‹_›, ‹_›, ‹_›, ‹_›⟩ (fun _ => HM4.out _)).mono ?_)); rintro e w' ⟨rfl, q1, q2, q3, q4, q5, q6, q7⟩) | (go_at_call 53; go_split_ands; with_reducible refine (HL.out _ _ _ _ ⟨‹_›, ‹_›, ‹_›, ‹_›, ‹_›, ‹_›, ‹_›⟩ (fun ht => FracW.awake_any _ ht)).mono ?_; rintro e w' ⟨rfl, q1, q2, q3, q4, q5, q6, q7⟩))
        all_goals go_wp2
        all_goals go_ret
        all_goals exact ⟨rfl, q7.out.1⟩
end FracL4
end Go.Proofs.YtandcmlmklpckaaDoor
