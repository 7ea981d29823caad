/- Parse of the reference: the walk. No conditions. -/
import Derived.Test.YtlamemhfnglfeaaDoorFracB7
namespace Go.Proofs.YtlamemhfnglfeaaDoor
open Go Go.RowKit
namespace FracB8
open Kit FracT FracM FracB1 FracB2 FracB3 FracB5 FracB6 FracB7
def Post (s : ByteArray) (n0 N d0 : Int) : Ending := if n0 < 0 then PR 0 0 1 else if vld N d0 = true ∧ (⟨(text N d0).toArray⟩ : ByteArray) = s then PR N d0 0 else PR 0 0 1
set_option maxRecDepth 100000 in
set_option maxHeartbeats 6400000 in
theorem neg (s t : ByteArray) (p : Nat) (n0 d0 : Int) (t1 t2 : ByteArray) (w : World) (h0 : 0 < s.size) (h45 : ((s[0].toNat : Int) == 45) = true) (hE : s.extract 1 s.size = t) (X : Txt t p n0 d0 t1 t2) (hs : t.size ≤ 900) (hs2 : s.size ≤ 900) :
    Calls Tryd.prog 37 #[.string s] w fun e w' => e = Post s n0 (-n0) d0 ∧ Below w.heap.size w w' := by
  obtain ⟨hple, hno, hat, e1, e2, w1, w2, hn, hd, hone⟩ := X
  have P1 : Hid (n0 < 0 → Post s n0 (-n0) d0 = PR 0 0 1) := by intro h; unfold Post; rw [if_pos h]
  have P2 : Hid (¬ n0 < 0 → vld (-n0) d0 = false → Post s n0 (-n0) d0 = PR 0 0 1) := by intro h1 h2; unfold Post; rw [if_neg h1, if_neg (by rw [h2]; simp)]
  have P3 : Hid (¬ n0 < 0 → ¬ (⟨(text (-n0) d0).toArray⟩ : ByteArray) = s → Post s n0 (-n0) d0 = PR 0 0 1) := by intro h1 h2; unfold Post; rw [if_neg h1, if_neg (fun h => h2 h.2)]
  have P4 : Hid (¬ n0 < 0 → vld (-n0) d0 = true → (⟨(text (-n0) d0).toArray⟩ : ByteArray) = s → Post s n0 (-n0) d0 = PR (-n0) d0 0) := by intro h1 h2 h3; unfold Post; rw [if_neg h1, if_pos ⟨h2, h3⟩]
  have CV := Lib.hid (fun w => FracE.valid_any (-n0) d0 w (by omega) (by omega) (by omega) (by omega))
  have CT := Lib.hid (fun (h : vld (-n0) d0 = true) w => rtext_any (-n0) d0 w (vld_in h).1.1 (vld_in h).1.2 (vld_in h).2.1.1 (vld_in h).2.1.2)
  generalize Post s n0 (-n0) d0 = post at *
  generalize (⟨(text (-n0) d0).toArray⟩ : ByteArray) = T at *
  have NO := Lib.hid hno
  have AT := Lib.hid hat
  have W1 := Lib.hid w1
  have W2 := Lib.hid w2
  clear hno hat w1 w2
  have H0 := Lib.hid (Has.new w 23 #[.int .i64 0, .int .i64 0])
  have B0 := Lib.hid (below_alloc w (.cells #[.int .i64 0, .int .i64 0] 23))
  have g1 : (1 : Int) ≤ (s.size : Int) := by omega
  go_enter Tryd.func37, Tryd.ntmps37
  go_wp2_with fail
  go_loop [6, 25] (fun a i => ∃ k : Nat, k ≤ t.size ∧ i = .int .i64 k ∧ a = .int .i64 ((if p < k then p else t.size : Nat) : Int)) (fun _ i => t.size - (intOf i).toNat)
  case atStart => exact ⟨0, Nat.zero_le _, rfl, by rw [if_neg (by omega)]⟩
  case round =>
    obtain ⟨k, hk, rfl, rfl⟩ := hrel
    by_cases hlt : k < t.size
    · rcases (by omega : k < p ∨ k = p ∨ p < k) with hx | rfl | hx
      · have q1 := NO.out k hlt hx
        rw [if_neg (show ¬ p < k by omega)]
        go_wp2_with fail
        go_round
        case rel => exact ⟨k + 1, by omega, by go_num, by rw [if_neg (by omega)]⟩
        case measure => simp [intOf] <;> omega
      · have q1 := AT.out hlt
        rw [if_neg (show ¬ k < k by omega)]
        go_wp2_with fail
        go_round
        case rel => exact ⟨k + 1, by omega, by go_num, by rw [if_pos (by omega)]⟩
        case measure => simp [intOf] <;> omega
      · rw [if_pos hx]
        have q2 : ((p : Int) == (t.size : Int)) = false := by
          cases q : ((p : Int) == (t.size : Int))
          · rfl
          · have : (p : Int) = (t.size : Int) := by simpa using q
            omega
        cases q1 : ((t[k].toNat : Int) == 47)
        all_goals
          go_wp2_with fail
          go_round
          case rel => exact ⟨k + 1, by omega, by go_num, by rw [if_pos (by omega)]⟩
          case measure => simp [intOf] <;> omega
    · obtain rfl : k = t.size := by omega
      have ha : (if p < t.size then p else t.size) = p := by split <;> omega
      rw [ha]
      go_wp2_with fail
      refine (W1.out _).mono ?_
      rintro e wx ⟨rfl, rfl⟩
      by_cases hp : p < t.size
      · have W3 := Lib.hid (fun w => (W2.out w).mono (fun e w' h => (h.resolve_right (fun q => q hp) : e = .returned (.int .i64 (if p < t.size then d0 else 0)) ∧ w = w')))
        rw [if_pos hp] at W3
        have g2 : (p : Int) + 1 ≤ (t.size : Int) := by omega
        go_wp2_with fail
        refine (W3.out _).mono ?_
        rintro e wx ⟨rfl, rfl⟩
        by_cases hneg : n0 < 0
        · go_wp2_with fail
          refine bodyPost_ret (v := .tuple #[.agg #[.int .i64 0, .int .i64 0], .int .i64 1]) (by simp [results, Tryd.results37, go_sem]) rfl ?_
          exact ⟨(P1.out hneg).symm, B0.out.alloc B0.out.size _⟩
        · have R := Lib.hid (H0.out.alloc (.cells #[.int .i64 (-n0), .int .i64 d0] 23))
          have F := Lib.hid (Has.new1 w (.cells #[.int .i64 0, .int .i64 0] 23) 23 #[.int .i64 (-n0), .int .i64 d0])
          have B := Lib.hid (B0.out.alloc B0.out.size (.cells #[.int .i64 (-n0), .int .i64 d0] 23))
          go_wp2_with fail
          refine (CV.out _).mono ?_
          rintro e w4 ⟨rfl, k4⟩
          have R4 := Lib.hid (R.out.step0 k4)
          have F4 := Lib.hid (F.out.step0 k4)
          have B4 := Lib.hid (B.out.trans (k4.mono B.out.size))
          clear k4
          generalize hv : vld (-n0) d0 = v
          have HV := Lib.hid hv
          clear hv
          cases v
          · obtain ⟨y1, y2, y3, y4, y5⟩ := R4.out.two
            go_wp2_with fail
            have r0 := R4.out.put0 (.int .i64 0) (.int .i64 0)
            have r1 := R4.out.put1 (.int .i64 0) (.int .i64 0)
            refine bodyPost_ret (v := .tuple #[.agg #[.int .i64 0, .int .i64 0], .int .i64 1]) (by simp [results, Tryd.results37, go_sem, r0, r1]) rfl ?_
            exact ⟨(P2.out hneg HV.out).symm, by repeat (first | exact B4.out | refine Below.setCell ?_ (by simp) _)⟩
          · obtain ⟨z1, z2, z3, z4, z5⟩ := F4.out.two
            have CT2 := Lib.hid (CT.out HV.out)
            go_wp2_with fail
            refine (CT2.out _).mono ?_
            rintro e w5 ⟨rfl, k5⟩
            have R5 := Lib.hid (R4.out.step0 k5)
            have F5 := Lib.hid (F4.out.step0 k5)
            have B5 := Lib.hid (B4.out.trans (k5.mono B4.out.size))
            clear k5 z1 z2 z3 z4 z5
            obtain ⟨z1, z2, z3, z4, z5⟩ := F5.out.two
            obtain ⟨y1, y2, y3, y4, y5⟩ := R5.out.two
            by_cases hT : T = s
            · have q1 : T.toList = s.toList := by rw [hT]
              have q2 : (T.toList == s.toList) = true := by simpa using q1
              go_wp2_with fail
              have r0 := R5.out.put0 (.int .i64 (-n0)) (.int .i64 d0)
              have r1 := R5.out.put1 (.int .i64 (-n0)) (.int .i64 d0)
              refine bodyPost_ret (v := .tuple #[.agg #[.int .i64 (-n0), .int .i64 d0], .int .i64 0]) (by simp [results, Tryd.results37, go_sem, r0, r1]) rfl ?_
              exact ⟨(P4.out hneg HV.out hT).symm, by repeat (first | exact B5.out | refine Below.setCell ?_ (by simp) _)⟩
            · have q1 : ¬ T.toList = s.toList := fun h => hT (by rw [ByteArray.toList_eq, ByteArray.toList_eq] at h; exact Go.WideShapes.bytes_inj h)
              have q2 : (T.toList == s.toList) = false := by simpa using q1
              go_wp2_with fail
              have r0 := R5.out.put0 (.int .i64 0) (.int .i64 0)
              have r1 := R5.out.put1 (.int .i64 0) (.int .i64 0)
              refine bodyPost_ret (v := .tuple #[.agg #[.int .i64 0, .int .i64 0], .int .i64 1]) (by simp [results, Tryd.results37, go_sem, r0, r1]) rfl ?_
              exact ⟨(P3.out hneg hT).symm, by repeat (first | exact B5.out | refine Below.setCell ?_ (by simp) _)⟩
      · obtain rfl : d0 = 1 := hone hp
        by_cases hneg : n0 < 0
        · go_wp2_with fail
          refine bodyPost_ret (v := .tuple #[.agg #[.int .i64 0, .int .i64 0], .int .i64 1]) (by simp [results, Tryd.results37, go_sem]) rfl ?_
          exact ⟨(P1.out hneg).symm, B0.out.alloc B0.out.size _⟩
        · have R := Lib.hid (H0.out.alloc (.cells #[.int .i64 (-n0), .int .i64 1] 23))
          have F := Lib.hid (Has.new1 w (.cells #[.int .i64 0, .int .i64 0] 23) 23 #[.int .i64 (-n0), .int .i64 1])
          have B := Lib.hid (B0.out.alloc B0.out.size (.cells #[.int .i64 (-n0), .int .i64 1] 23))
          go_wp2_with fail
          refine (CV.out _).mono ?_
          rintro e w4 ⟨rfl, k4⟩
          have R4 := Lib.hid (R.out.step0 k4)
          have F4 := Lib.hid (F.out.step0 k4)
          have B4 := Lib.hid (B.out.trans (k4.mono B.out.size))
          clear k4
          generalize hv : vld (-n0) 1 = v
          have HV := Lib.hid hv
          clear hv
          cases v
          · obtain ⟨y1, y2, y3, y4, y5⟩ := R4.out.two
            go_wp2_with fail
            have r0 := R4.out.put0 (.int .i64 0) (.int .i64 0)
            have r1 := R4.out.put1 (.int .i64 0) (.int .i64 0)
            refine bodyPost_ret (v := .tuple #[.agg #[.int .i64 0, .int .i64 0], .int .i64 1]) (by simp [results, Tryd.results37, go_sem, r0, r1]) rfl ?_
            exact ⟨(P2.out hneg HV.out).symm, by repeat (first | exact B4.out | refine Below.setCell ?_ (by simp) _)⟩
          · obtain ⟨z1, z2, z3, z4, z5⟩ := F4.out.two
            have CT2 := Lib.hid (CT.out HV.out)
            go_wp2_with fail
            refine (CT2.out _).mono ?_
            rintro e w5 ⟨rfl, k5⟩
            have R5 := Lib.hid (R4.out.step0 k5)
            have F5 := Lib.hid (F4.out.step0 k5)
            have B5 := Lib.hid (B4.out.trans (k5.mono B4.out.size))
            clear k5 z1 z2 z3 z4 z5
            obtain ⟨z1, z2, z3, z4, z5⟩ := F5.out.two
            obtain ⟨y1, y2, y3, y4, y5⟩ := R5.out.two
            by_cases hT : T = s
            · have q1 : T.toList = s.toList := by rw [hT]
              have q2 : (T.toList == s.toList) = true := by simpa using q1
              go_wp2_with fail
              have r0 := R5.out.put0 (.int .i64 (-n0)) (.int .i64 1)
              have r1 := R5.out.put1 (.int .i64 (-n0)) (.int .i64 1)
              refine bodyPost_ret (v := .tuple #[.agg #[.int .i64 (-n0), .int .i64 1], .int .i64 0]) (by simp [results, Tryd.results37, go_sem, r0, r1]) rfl ?_
              exact ⟨(P4.out hneg HV.out hT).symm, by repeat (first | exact B5.out | refine Below.setCell ?_ (by simp) _)⟩
            · have q1 : ¬ T.toList = s.toList := fun h => hT (by rw [ByteArray.toList_eq, ByteArray.toList_eq] at h; exact Go.WideShapes.bytes_inj h)
              have q2 : (T.toList == s.toList) = false := by simpa using q1
              go_wp2_with fail
              have r0 := R5.out.put0 (.int .i64 0) (.int .i64 0)
              have r1 := R5.out.put1 (.int .i64 0) (.int .i64 0)
              refine bodyPost_ret (v := .tuple #[.agg #[.int .i64 0, .int .i64 0], .int .i64 1]) (by simp [results, Tryd.results37, go_sem, r0, r1]) rfl ?_
              exact ⟨(P3.out hneg hT).symm, by repeat (first | exact B5.out | refine Below.setCell ?_ (by simp) _)⟩
set_option maxRecDepth 100000 in
set_option maxHeartbeats 6400000 in
theorem pos (s t : ByteArray) (p : Nat) (n0 d0 : Int) (t1 t2 : ByteArray) (w : World) (h0 : 0 < s.size) (h45 : ((s[0].toNat : Int) == 45) = false) (hE : t = s) (X : Txt t p n0 d0 t1 t2) (hs : t.size ≤ 900) (hs2 : s.size ≤ 900) :
    Calls Tryd.prog 37 #[.string s] w fun e w' => e = Post s n0 n0 d0 ∧ Below w.heap.size w w' := by
  obtain ⟨hple, hno, hat, e1, e2, w1, w2, hn, hd, hone⟩ := X
  have P1 : Hid (n0 < 0 → Post s n0 n0 d0 = PR 0 0 1) := by intro h; unfold Post; rw [if_pos h]
  have P2 : Hid (¬ n0 < 0 → vld n0 d0 = false → Post s n0 n0 d0 = PR 0 0 1) := by intro h1 h2; unfold Post; rw [if_neg h1, if_neg (by rw [h2]; simp)]
  have P3 : Hid (¬ n0 < 0 → ¬ (⟨(text n0 d0).toArray⟩ : ByteArray) = s → Post s n0 n0 d0 = PR 0 0 1) := by intro h1 h2; unfold Post; rw [if_neg h1, if_neg (fun h => h2 h.2)]
  have P4 : Hid (¬ n0 < 0 → vld n0 d0 = true → (⟨(text n0 d0).toArray⟩ : ByteArray) = s → Post s n0 n0 d0 = PR n0 d0 0) := by intro h1 h2 h3; unfold Post; rw [if_neg h1, if_pos ⟨h2, h3⟩]
  have CV := Lib.hid (fun w => FracE.valid_any n0 d0 w (by omega) (by omega) (by omega) (by omega))
  have CT := Lib.hid (fun (h : vld n0 d0 = true) w => rtext_any n0 d0 w (vld_in h).1.1 (vld_in h).1.2 (vld_in h).2.1.1 (vld_in h).2.1.2)
  generalize Post s n0 n0 d0 = post at *
  generalize (⟨(text n0 d0).toArray⟩ : ByteArray) = T at *
  have NO := Lib.hid hno
  have AT := Lib.hid hat
  have W1 := Lib.hid w1
  have W2 := Lib.hid w2
  clear hno hat w1 w2
  have H0 := Lib.hid (Has.new w 23 #[.int .i64 0, .int .i64 0])
  have B0 := Lib.hid (below_alloc w (.cells #[.int .i64 0, .int .i64 0] 23))
  subst hE
  go_enter Tryd.func37, Tryd.ntmps37
  go_wp2_with fail
  go_loop [6, 25] (fun a i => ∃ k : Nat, k ≤ t.size ∧ i = .int .i64 k ∧ a = .int .i64 ((if p < k then p else t.size : Nat) : Int)) (fun _ i => t.size - (intOf i).toNat)
  case atStart => exact ⟨0, Nat.zero_le _, rfl, by rw [if_neg (by omega)]⟩
  case round =>
    obtain ⟨k, hk, rfl, rfl⟩ := hrel
    by_cases hlt : k < t.size
    · rcases (by omega : k < p ∨ k = p ∨ p < k) with hx | rfl | hx
      · have q1 := NO.out k hlt hx
        rw [if_neg (show ¬ p < k by omega)]
        go_wp2_with fail
        go_round
        case rel => exact ⟨k + 1, by omega, by go_num, by rw [if_neg (by omega)]⟩
        case measure => simp [intOf] <;> omega
      · have q1 := AT.out hlt
        rw [if_neg (show ¬ k < k by omega)]
        go_wp2_with fail
        go_round
        case rel => exact ⟨k + 1, by omega, by go_num, by rw [if_pos (by omega)]⟩
        case measure => simp [intOf] <;> omega
      · rw [if_pos hx]
        have q2 : ((p : Int) == (t.size : Int)) = false := by
          cases q : ((p : Int) == (t.size : Int))
          · rfl
          · have : (p : Int) = (t.size : Int) := by simpa using q
            omega
        cases q1 : ((t[k].toNat : Int) == 47)
        all_goals
          go_wp2_with fail
          go_round
          case rel => exact ⟨k + 1, by omega, by go_num, by rw [if_pos (by omega)]⟩
          case measure => simp [intOf] <;> omega
    · obtain rfl : k = t.size := by omega
      have ha : (if p < t.size then p else t.size) = p := by split <;> omega
      rw [ha]
      go_wp2_with fail
      refine (W1.out _).mono ?_
      rintro e wx ⟨rfl, rfl⟩
      by_cases hp : p < t.size
      · have W3 := Lib.hid (fun w => (W2.out w).mono (fun e w' h => (h.resolve_right (fun q => q hp) : e = .returned (.int .i64 (if p < t.size then d0 else 0)) ∧ w = w')))
        rw [if_pos hp] at W3
        have g2 : (p : Int) + 1 ≤ (t.size : Int) := by omega
        go_wp2_with fail
        refine (W3.out _).mono ?_
        rintro e wx ⟨rfl, rfl⟩
        by_cases hneg : n0 < 0
        · go_wp2_with fail
          refine bodyPost_ret (v := .tuple #[.agg #[.int .i64 0, .int .i64 0], .int .i64 1]) (by simp [results, Tryd.results37, go_sem]) rfl ?_
          exact ⟨(P1.out hneg).symm, B0.out.alloc B0.out.size _⟩
        · have R := Lib.hid (H0.out.alloc (.cells #[.int .i64 n0, .int .i64 d0] 23))
          have F := Lib.hid (Has.new1 w (.cells #[.int .i64 0, .int .i64 0] 23) 23 #[.int .i64 n0, .int .i64 d0])
          have B := Lib.hid (B0.out.alloc B0.out.size (.cells #[.int .i64 n0, .int .i64 d0] 23))
          go_wp2_with fail
          refine (CV.out _).mono ?_
          rintro e w4 ⟨rfl, k4⟩
          have R4 := Lib.hid (R.out.step0 k4)
          have F4 := Lib.hid (F.out.step0 k4)
          have B4 := Lib.hid (B.out.trans (k4.mono B.out.size))
          clear k4
          generalize hv : vld n0 d0 = v
          have HV := Lib.hid hv
          clear hv
          cases v
          · obtain ⟨y1, y2, y3, y4, y5⟩ := R4.out.two
            go_wp2_with fail
            have r0 := R4.out.put0 (.int .i64 0) (.int .i64 0)
            have r1 := R4.out.put1 (.int .i64 0) (.int .i64 0)
            refine bodyPost_ret (v := .tuple #[.agg #[.int .i64 0, .int .i64 0], .int .i64 1]) (by simp [results, Tryd.results37, go_sem, r0, r1]) rfl ?_
            exact ⟨(P2.out hneg HV.out).symm, by repeat (first | exact B4.out | refine Below.setCell ?_ (by simp) _)⟩
          · obtain ⟨z1, z2, z3, z4, z5⟩ := F4.out.two
            have CT2 := Lib.hid (CT.out HV.out)
            go_wp2_with fail
            refine (CT2.out _).mono ?_
            rintro e w5 ⟨rfl, k5⟩
            have R5 := Lib.hid (R4.out.step0 k5)
            have F5 := Lib.hid (F4.out.step0 k5)
            have B5 := Lib.hid (B4.out.trans (k5.mono B4.out.size))
            clear k5 z1 z2 z3 z4 z5
            obtain ⟨z1, z2, z3, z4, z5⟩ := F5.out.two
            obtain ⟨y1, y2, y3, y4, y5⟩ := R5.out.two
            by_cases hT : T = t
            · have q1 : T.toList = t.toList := by rw [hT]
              have q2 : (T.toList == t.toList) = true := by simpa using q1
              go_wp2_with fail
              have r0 := R5.out.put0 (.int .i64 n0) (.int .i64 d0)
              have r1 := R5.out.put1 (.int .i64 n0) (.int .i64 d0)
              refine bodyPost_ret (v := .tuple #[.agg #[.int .i64 n0, .int .i64 d0], .int .i64 0]) (by simp [results, Tryd.results37, go_sem, r0, r1]) rfl ?_
              exact ⟨(P4.out hneg HV.out hT).symm, by repeat (first | exact B5.out | refine Below.setCell ?_ (by simp) _)⟩
            · have q1 : ¬ T.toList = t.toList := fun h => hT (by rw [ByteArray.toList_eq, ByteArray.toList_eq] at h; exact Go.WideShapes.bytes_inj h)
              have q2 : (T.toList == t.toList) = false := by simpa using q1
              go_wp2_with fail
              have r0 := R5.out.put0 (.int .i64 0) (.int .i64 0)
              have r1 := R5.out.put1 (.int .i64 0) (.int .i64 0)
              refine bodyPost_ret (v := .tuple #[.agg #[.int .i64 0, .int .i64 0], .int .i64 1]) (by simp [results, Tryd.results37, go_sem, r0, r1]) rfl ?_
              exact ⟨(P3.out hneg hT).symm, by repeat (first | exact B5.out | refine Below.setCell ?_ (by simp) _)⟩
      · obtain rfl : d0 = 1 := hone hp
        by_cases hneg : n0 < 0
        · go_wp2_with fail
          refine bodyPost_ret (v := .tuple #[.agg #[.int .i64 0, .int .i64 0], .int .i64 1]) (by simp [results, Tryd.results37, go_sem]) rfl ?_
          exact ⟨(P1.out hneg).symm, B0.out.alloc B0.out.size _⟩
        · have R := Lib.hid (H0.out.alloc (.cells #[.int .i64 n0, .int .i64 1] 23))
          have F := Lib.hid (Has.new1 w (.cells #[.int .i64 0, .int .i64 0] 23) 23 #[.int .i64 n0, .int .i64 1])
          have B := Lib.hid (B0.out.alloc B0.out.size (.cells #[.int .i64 n0, .int .i64 1] 23))
          go_wp2_with fail
          refine (CV.out _).mono ?_
          rintro e w4 ⟨rfl, k4⟩
          have R4 := Lib.hid (R.out.step0 k4)
          have F4 := Lib.hid (F.out.step0 k4)
          have B4 := Lib.hid (B.out.trans (k4.mono B.out.size))
          clear k4
          generalize hv : vld n0 1 = v
          have HV := Lib.hid hv
          clear hv
          cases v
          · obtain ⟨y1, y2, y3, y4, y5⟩ := R4.out.two
            go_wp2_with fail
            have r0 := R4.out.put0 (.int .i64 0) (.int .i64 0)
            have r1 := R4.out.put1 (.int .i64 0) (.int .i64 0)
            refine bodyPost_ret (v := .tuple #[.agg #[.int .i64 0, .int .i64 0], .int .i64 1]) (by simp [results, Tryd.results37, go_sem, r0, r1]) rfl ?_
            exact ⟨(P2.out hneg HV.out).symm, by repeat (first | exact B4.out | refine Below.setCell ?_ (by simp) _)⟩
          · obtain ⟨z1, z2, z3, z4, z5⟩ := F4.out.two
            have CT2 := Lib.hid (CT.out HV.out)
            go_wp2_with fail
            refine (CT2.out _).mono ?_
            rintro e w5 ⟨rfl, k5⟩
            have R5 := Lib.hid (R4.out.step0 k5)
            have F5 := Lib.hid (F4.out.step0 k5)
            have B5 := Lib.hid (B4.out.trans (k5.mono B4.out.size))
            clear k5 z1 z2 z3 z4 z5
            obtain ⟨z1, z2, z3, z4, z5⟩ := F5.out.two
            obtain ⟨y1, y2, y3, y4, y5⟩ := R5.out.two
            by_cases hT : T = t
            · have q1 : T.toList = t.toList := by rw [hT]
              have q2 : (T.toList == t.toList) = true := by simpa using q1
              go_wp2_with fail
              have r0 := R5.out.put0 (.int .i64 n0) (.int .i64 1)
              have r1 := R5.out.put1 (.int .i64 n0) (.int .i64 1)
              refine bodyPost_ret (v := .tuple #[.agg #[.int .i64 n0, .int .i64 1], .int .i64 0]) (by simp [results, Tryd.results37, go_sem, r0, r1]) rfl ?_
              exact ⟨(P4.out hneg HV.out hT).symm, by repeat (first | exact B5.out | refine Below.setCell ?_ (by simp) _)⟩
            · have q1 : ¬ T.toList = t.toList := fun h => hT (by rw [ByteArray.toList_eq, ByteArray.toList_eq] at h; exact Go.WideShapes.bytes_inj h)
              have q2 : (T.toList == t.toList) = false := by simpa using q1
              go_wp2_with fail
              have r0 := R5.out.put0 (.int .i64 0) (.int .i64 0)
              have r1 := R5.out.put1 (.int .i64 0) (.int .i64 0)
              refine bodyPost_ret (v := .tuple #[.agg #[.int .i64 0, .int .i64 0], .int .i64 1]) (by simp [results, Tryd.results37, go_sem, r0, r1]) rfl ?_
              exact ⟨(P3.out hneg hT).symm, by repeat (first | exact B5.out | refine Below.setCell ?_ (by simp) _)⟩
set_option maxRecDepth 100000 in
set_option maxHeartbeats 6400000 in
theorem none (s t : ByteArray) (p : Nat) (n0 d0 : Int) (t1 t2 : ByteArray) (w : World) (h0 : ¬ 0 < s.size) (hE : t = s) (X : Txt t p n0 d0 t1 t2) (hs : t.size ≤ 900) (hs2 : s.size ≤ 900) :
    Calls Tryd.prog 37 #[.string s] w fun e w' => e = Post s n0 n0 d0 ∧ Below w.heap.size w w' := by
  obtain ⟨hple, hno, hat, e1, e2, w1, w2, hn, hd, hone⟩ := X
  have P1 : Hid (n0 < 0 → Post s n0 n0 d0 = PR 0 0 1) := by intro h; unfold Post; rw [if_pos h]
  have P2 : Hid (¬ n0 < 0 → vld n0 d0 = false → Post s n0 n0 d0 = PR 0 0 1) := by intro h1 h2; unfold Post; rw [if_neg h1, if_neg (by rw [h2]; simp)]
  have P3 : Hid (¬ n0 < 0 → ¬ (⟨(text n0 d0).toArray⟩ : ByteArray) = s → Post s n0 n0 d0 = PR 0 0 1) := by intro h1 h2; unfold Post; rw [if_neg h1, if_neg (fun h => h2 h.2)]
  have P4 : Hid (¬ n0 < 0 → vld n0 d0 = true → (⟨(text n0 d0).toArray⟩ : ByteArray) = s → Post s n0 n0 d0 = PR n0 d0 0) := by intro h1 h2 h3; unfold Post; rw [if_neg h1, if_pos ⟨h2, h3⟩]
  have CV := Lib.hid (fun w => FracE.valid_any n0 d0 w (by omega) (by omega) (by omega) (by omega))
  have CT := Lib.hid (fun (h : vld n0 d0 = true) w => rtext_any n0 d0 w (vld_in h).1.1 (vld_in h).1.2 (vld_in h).2.1.1 (vld_in h).2.1.2)
  generalize Post s n0 n0 d0 = post at *
  generalize (⟨(text n0 d0).toArray⟩ : ByteArray) = T at *
  have NO := Lib.hid hno
  have AT := Lib.hid hat
  have W1 := Lib.hid w1
  have W2 := Lib.hid w2
  clear hno hat w1 w2
  have H0 := Lib.hid (Has.new w 23 #[.int .i64 0, .int .i64 0])
  have B0 := Lib.hid (below_alloc w (.cells #[.int .i64 0, .int .i64 0] 23))
  subst hE
  go_enter Tryd.func37, Tryd.ntmps37
  go_wp2_with fail
  go_loop [6, 25] (fun a i => ∃ k : Nat, k ≤ t.size ∧ i = .int .i64 k ∧ a = .int .i64 ((if p < k then p else t.size : Nat) : Int)) (fun _ i => t.size - (intOf i).toNat)
  case atStart => exact ⟨0, Nat.zero_le _, rfl, by rw [if_neg (by omega)]⟩
  case round =>
    obtain ⟨k, hk, rfl, rfl⟩ := hrel
    by_cases hlt : k < t.size
    · rcases (by omega : k < p ∨ k = p ∨ p < k) with hx | rfl | hx
      · have q1 := NO.out k hlt hx
        rw [if_neg (show ¬ p < k by omega)]
        go_wp2_with fail
        go_round
        case rel => exact ⟨k + 1, by omega, by go_num, by rw [if_neg (by omega)]⟩
        case measure => simp [intOf] <;> omega
      · have q1 := AT.out hlt
        rw [if_neg (show ¬ k < k by omega)]
        go_wp2_with fail
        go_round
        case rel => exact ⟨k + 1, by omega, by go_num, by rw [if_pos (by omega)]⟩
        case measure => simp [intOf] <;> omega
      · rw [if_pos hx]
        have q2 : ((p : Int) == (t.size : Int)) = false := by
          cases q : ((p : Int) == (t.size : Int))
          · rfl
          · have : (p : Int) = (t.size : Int) := by simpa using q
            omega
        cases q1 : ((t[k].toNat : Int) == 47)
        all_goals
          go_wp2_with fail
          go_round
          case rel => exact ⟨k + 1, by omega, by go_num, by rw [if_pos (by omega)]⟩
          case measure => simp [intOf] <;> omega
    · obtain rfl : k = t.size := by omega
      have ha : (if p < t.size then p else t.size) = p := by split <;> omega
      rw [ha]
      go_wp2_with fail
      refine (W1.out _).mono ?_
      rintro e wx ⟨rfl, rfl⟩
      by_cases hp : p < t.size
      · exact absurd hp (by omega)
      · obtain rfl : d0 = 1 := hone hp
        by_cases hneg : n0 < 0
        · go_wp2_with fail
          refine bodyPost_ret (v := .tuple #[.agg #[.int .i64 0, .int .i64 0], .int .i64 1]) (by simp [results, Tryd.results37, go_sem]) rfl ?_
          exact ⟨(P1.out hneg).symm, B0.out.alloc B0.out.size _⟩
        · have R := Lib.hid (H0.out.alloc (.cells #[.int .i64 n0, .int .i64 1] 23))
          have F := Lib.hid (Has.new1 w (.cells #[.int .i64 0, .int .i64 0] 23) 23 #[.int .i64 n0, .int .i64 1])
          have B := Lib.hid (B0.out.alloc B0.out.size (.cells #[.int .i64 n0, .int .i64 1] 23))
          go_wp2_with fail
          refine (CV.out _).mono ?_
          rintro e w4 ⟨rfl, k4⟩
          have R4 := Lib.hid (R.out.step0 k4)
          have F4 := Lib.hid (F.out.step0 k4)
          have B4 := Lib.hid (B.out.trans (k4.mono B.out.size))
          clear k4
          generalize hv : vld n0 1 = v
          have HV := Lib.hid hv
          clear hv
          cases v
          · obtain ⟨y1, y2, y3, y4, y5⟩ := R4.out.two
            go_wp2_with fail
            have r0 := R4.out.put0 (.int .i64 0) (.int .i64 0)
            have r1 := R4.out.put1 (.int .i64 0) (.int .i64 0)
            refine bodyPost_ret (v := .tuple #[.agg #[.int .i64 0, .int .i64 0], .int .i64 1]) (by simp [results, Tryd.results37, go_sem, r0, r1]) rfl ?_
            exact ⟨(P2.out hneg HV.out).symm, by repeat (first | exact B4.out | refine Below.setCell ?_ (by simp) _)⟩
          · obtain ⟨z1, z2, z3, z4, z5⟩ := F4.out.two
            have CT2 := Lib.hid (CT.out HV.out)
            go_wp2_with fail
            refine (CT2.out _).mono ?_
            rintro e w5 ⟨rfl, k5⟩
            have R5 := Lib.hid (R4.out.step0 k5)
            have F5 := Lib.hid (F4.out.step0 k5)
            have B5 := Lib.hid (B4.out.trans (k5.mono B4.out.size))
            clear k5 z1 z2 z3 z4 z5
            obtain ⟨z1, z2, z3, z4, z5⟩ := F5.out.two
            obtain ⟨y1, y2, y3, y4, y5⟩ := R5.out.two
            by_cases hT : T = t
            · have q1 : T.toList = t.toList := by rw [hT]
              have q2 : (T.toList == t.toList) = true := by simpa using q1
              go_wp2_with fail
              have r0 := R5.out.put0 (.int .i64 n0) (.int .i64 1)
              have r1 := R5.out.put1 (.int .i64 n0) (.int .i64 1)
              refine bodyPost_ret (v := .tuple #[.agg #[.int .i64 n0, .int .i64 1], .int .i64 0]) (by simp [results, Tryd.results37, go_sem, r0, r1]) rfl ?_
              exact ⟨(P4.out hneg HV.out hT).symm, by repeat (first | exact B5.out | refine Below.setCell ?_ (by simp) _)⟩
            · have q1 : ¬ T.toList = t.toList := fun h => hT (by rw [ByteArray.toList_eq, ByteArray.toList_eq] at h; exact Go.WideShapes.bytes_inj h)
              have q2 : (T.toList == t.toList) = false := by simpa using q1
              go_wp2_with fail
              have r0 := R5.out.put0 (.int .i64 0) (.int .i64 0)
              have r1 := R5.out.put1 (.int .i64 0) (.int .i64 0)
              refine bodyPost_ret (v := .tuple #[.agg #[.int .i64 0, .int .i64 0], .int .i64 1]) (by simp [results, Tryd.results37, go_sem, r0, r1]) rfl ?_
              exact ⟨(P3.out hneg hT).symm, by repeat (first | exact B5.out | refine Below.setCell ?_ (by simp) _)⟩
end FracB8
end Go.Proofs.YtlamemhfnglfeaaDoor
