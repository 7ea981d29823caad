/- The walks of RandomBounds. -/
import Derived.Test.YtdnonfoidamkcaaRandL2
namespace Go.Proofs.Ytdnonfoidamkcaa
open Go Go.RowKit
namespace RandL5
open Kit RandM RandA RandB RandC RandD RandE RandF RandG RandH RandJ RandW RandL1 RandL2
/-- Is some weight positive? -/
def pos (l : List Int) : Bool := l.any (fun x => decide (0 < x))
theorem pos_snoc (l : List Int) (i : Nat) (x : Int) (h : l[i]? = some x) : pos (l.take (i + 1)) = (pos (l.take i) || decide (0 < x)) := by
  simp [pos, List.take_add_one, h]
theorem pos_no {l : List Int} (h : pos l = false) : sumW l = 0 := by
  induction l with
  | nil => rfl
  | cons a l ih =>
    simp only [pos, List.any_cons, Bool.or_eq_false_iff, decide_eq_false_iff_not] at h
    have h1 := ih h.2
    have h2 : wt a = 0 := by unfold wt; split <;> (try split) <;> omega
    simp [sumW, h1, h2]
theorem pos_yes {l : List Int} (h : pos l = true) : 1 ≤ sumW l := by
  induction l with
  | nil => simp [pos] at h
  | cons a l ih =>
    have hs := sumW_in l
    have ha := wt_in a
    by_cases c : 0 < a
    · have : 1 ≤ wt a := by unfold wt; split <;> (try split) <;> omega
      simp only [sumW]; omega
    · have h1 : pos l = true := by
        simp only [pos, List.any_cons, Bool.or_eq_true, decide_eq_true_eq] at h
        rcases h with h | h
        · exact absurd h c
        · exact h
      have := ih h1
      simp only [sumW]; omega
theorem at_pos : ∀ (l : List Int) (q : Int) (i : Nat), 0 ≤ q → q < sumW l → ∃ j : Nat, at_ l q i = ((i + j : Nat) : Int) ∧ j < l.length ∧ ∃ x, l[j]? = some x ∧ 0 < x := by
  intro l
  induction l with
  | nil => intro q i h0 h1; simp [sumW] at h1; omega
  | cons a l ih =>
    intro q i h0 h1
    by_cases c : q - wt a < 0
    · refine ⟨0, by rw [at_, if_pos c]; rfl, by simp, a, rfl, ?_⟩
      by_cases ha : a < 0
      · rw [wt_lo ha] at c; omega
      · by_cases hz : a = 0
        · subst hz; rw [wt_mid (by omega) (by omega)] at c; omega
        · omega
    · simp only [sumW] at h1
      obtain ⟨j, hj, hlt, x, hx, hp⟩ := ih (q - wt a) (i + 1) (by omega) (by omega)
      refine ⟨j + 1, by rw [at_, if_neg c, hj]; congr 1; omega, by simp; omega, x, by simpa using hx, hp⟩
set_option maxRecDepth 100000 in
set_option maxHeartbeats 3200000 in
theorem bounds_long (s n : Int) (a : Option Addr) (m cap : Nat) (w : World) (hm : 5000 < m) :
    Calls Try.prog 9 #[.int .u64 s, .int .i64 n, .slice a m cap] w fun e w' => e = .returned (.bool true) ∧ Below w.heap.size w w' := by
  have C5 := Lib.hid awake_any
  go_enter Try.func9, Try.ntmps9
  go_wp2_with fail
  refine (C5.out _).mono ?_
  rintro e w1 ⟨rfl, k1⟩
  go_wp2_with fail
  go_ret
  exact ⟨rfl, k1⟩
theorem low (s n : Int) (h' : n ≤ 9223372036854775807) : ∃ r x : Int, (∀ w, Calls Try.prog 14 #[.agg #[.int .u64 s], .int .i64 n] w fun e w' => e = .returned (.tuple #[.agg #[.int .u64 r], .int .i64 x]) ∧ Below w.heap.size w w') ∧ ((n < 1 ∧ x = 0) ∨ (1 ≤ n ∧ 0 ≤ x ∧ x < n)) := by
  by_cases h : n < 1
  · exact ⟨s, 0, fun w => below_lo s n w h, Or.inl ⟨h, rfl⟩⟩
  · have hm := mod_in s n (by omega)
    exact ⟨stp s, mix s % n, fun w => below_hi s n w (by omega) h', Or.inr ⟨by omega, hm.1, hm.2⟩⟩
set_option maxRecDepth 100000 in
set_option maxHeartbeats 3200000 in
theorem bounds_idle (s n : Int) (a : Option Addr) (m cap : Nat) (w : World) (r1 : Int) (h' : n ≤ 9223372036854775807) (hm : m ≤ 5000) (hc : 4096 < m ∨ m = 0)
    (p1 : ∀ w', Below w.heap.size w w' → Calls Try.prog 23 #[.agg #[.int .u64 s], .slice a m cap] w' fun e w'' => e = .returned (pk (r1, -1)) ∧ Below w'.heap.size w' w'') :
    Calls Try.prog 9 #[.int .u64 s, .int .i64 n, .slice a m cap] w fun e w' => e = .returned (.bool true) ∧ Below w.heap.size w w' := by
  have C5 := Lib.hid awake_any
  have C1 := Lib.hid p1
  unfold pk at C1
  dsimp only at C1
  clear p1
  obtain ⟨r, x, cb, hx⟩ := low s n h'
  have CB := Lib.hid cb
  have HX := Lib.hid hx
  clear cb hx
  go_enter Try.func9, Try.ntmps9
  go_wp2_with fail
  refine (CB.out _).mono ?_
  rintro e w1 ⟨rfl, k1⟩
  go_upto_region 4 with fail
  have D := Lib.hid (next0 k1 (below_alloc w1 (.cells #[.int .u64 r] 24)))
  clear k1
  generalize w1.alloc (.cells #[.int .u64 r] 24) = w2 at *
  go_cut [42] (fun s42 wx => s42 = .bool false ∧ w2 = wx)
  case first =>
    rcases HX.out with ⟨h1, rfl⟩ | ⟨h1, h2, h3⟩
    · go_wp2_with fail
      go_meet
      exact ⟨rfl, rfl⟩
    · go_wp2_with fail
      go_meet
      exact ⟨by rw [decide_eq_false (by omega), decide_eq_false (by omega)]; rfl, rfl⟩
  case rest =>
    obtain ⟨rfl, rfl⟩ := hcut
    clear HX
    go_wp2_with fail
    go_loop [9, 10] (fun b i => b = .bool false ∧ i = .int .i64 0) (fun _ _ => 0)
    case atStart => exact ⟨rfl, rfl⟩
    case round =>
      obtain ⟨rfl, rfl⟩ := hrel
      rcases hc with hc | rfl
      all_goals
        go_wp2_with fail
        refine (C1.out _ D.out).mono ?_
        rintro e w3 ⟨rfl, k3⟩
        have D3 := Lib.hid (next0 D.out k3)
        clear k3
        go_wp2_with fail
        refine (C5.out _).mono ?_
        rintro e w4 ⟨rfl, k4⟩
        have D4 := next1 D3.out k4
        go_wp2_with fail
        go_ret
        exact ⟨rfl, D4⟩
set_option maxRecDepth 100000 in
set_option maxHeartbeats 3200000 in
theorem bounds_some (s n : Int) (b off m cap : Nat) (l : List Int) (w : World) (h' : n ≤ 9223372036854775807) (hm : m ≤ 4096) (hw : Ws w b off l) (hl : l.length = m) :
    Calls Try.prog 9 #[.int .u64 s, .int .i64 n, .slice (some ⟨b, off, none⟩) m cap] w fun e w' => e = .returned (.bool true) ∧ Below w.heap.size w w' := by
  have p1 : ∀ w', Below w.heap.size w w' → Calls Try.prog 23 #[.agg #[.int .u64 s], .slice (some ⟨b, off, none⟩) m cap] w' fun e w'' => e = .returned (pk (pickF s l)) ∧ Below w'.heap.size w' w'' := fun w' h => pick_some b off m cap l s w' (hw.below h hw.1) hl hm
  have HW : Hid (∀ w', Below w.heap.size w w' → Ws w' b off l) := Lib.hid (fun w' h => hw.below h hw.1)
  have HP : Hid (pickF s l = if sumW l = 0 then (s, -1) else (stp s, at_ l (mix s % sumW l) 0)) := by
    unfold pickF; rw [if_neg (by omega)]; exact rfl
  have HL := Lib.hid hl
  have HT : Hid (l.take m = l) := Lib.hid (List.take_of_length_le (by omega))
  generalize pickF s l = R at *
  obtain ⟨r1, r2⟩ := R
  have HZ : Hid (0 = sumW l ∧ r2 = -1 ∧ pos l = false ∨ pos l = true ∧ ∃ j : Nat, r2 = j ∧ j < m ∧ ∃ x, l[j]? = some x ∧ 0 < x) := by
    by_cases hp : pos l = true
    · have h1 := pos_yes hp
      have hmod := mod_in s (sumW l) h1
      obtain ⟨j, hj, hlt, x, hx, hpx⟩ := at_pos l (mix s % sumW l) 0 hmod.1 hmod.2
      have h := HP.out
      rw [if_neg (by omega), hj] at h
      rw [Nat.zero_add] at h
      exact Or.inr ⟨hp, j, (Prod.mk.inj h).2, by omega, x, hx, hpx⟩
    · have hp' : pos l = false := by simpa using hp
      have h1 := pos_no hp'
      have h := HP.out
      rw [if_pos h1] at h
      exact Or.inl ⟨h1.symm, (Prod.mk.inj h).2, hp'⟩
  clear HP hl hw
  have C5 := Lib.hid awake_any
  have C1 := Lib.hid p1
  unfold pk at C1
  dsimp only at C1
  clear p1
  obtain ⟨r, x, cb, hx⟩ := low s n h'
  have CB := Lib.hid cb
  have HX := Lib.hid hx
  clear cb hx
  go_enter Try.func9, Try.ntmps9
  go_wp2_with fail
  refine (CB.out _).mono ?_
  rintro e w1 ⟨rfl, k1⟩
  go_upto_region 4 with fail
  have D := Lib.hid (next0 k1 (below_alloc w1 (.cells #[.int .u64 r] 24)))
  clear k1
  generalize w1.alloc (.cells #[.int .u64 r] 24) = w2 at *
  go_cut [42] (fun s42 wx => s42 = .bool false ∧ w2 = wx)
  case first =>
    rcases HX.out with ⟨h1, rfl⟩ | ⟨h1, h2, h3⟩
    · go_wp2_with fail
      go_meet
      exact ⟨rfl, rfl⟩
    · go_wp2_with fail
      go_meet
      exact ⟨by rw [decide_eq_false (by omega), decide_eq_false (by omega)]; rfl, rfl⟩
  case rest =>
    obtain ⟨rfl, rfl⟩ := hcut
    clear HX
    go_wp2_with fail
    have W2 := HW.out _ D.out
    go_loop [9, 10] (fun p i => ∃ k : Nat, k ≤ m ∧ i = .int .i64 k ∧ p = .bool (pos (l.take k))) (fun _ i => m - (intOf i).toNat)
    case atStart => exact ⟨0, Nat.zero_le _, rfl, rfl⟩
    case round =>
      obtain ⟨k, hk, rfl, rfl⟩ := hrel
      by_cases hlt : k < m
      · obtain ⟨x, hx⟩ : ∃ x, l[k]? = some x := ⟨l[k]'(by rw [HL.out]; exact hlt), by simp⟩
        have c := W2.2 k x hx
        have HS := Lib.hid (pos_snoc l k x hx)
        clear hx HZ
        cases hpk : pos (l.take k)
        · rw [hpk] at HS
          clear hpk
          by_cases hpx : 0 < x
          all_goals
            go_wp2_with fail
            go_round
            case rel => exact ⟨k + 1, by omega, by go_num, by rw [HS.out]; simp [hpx]⟩
            case measure => simp [intOf] <;> omega
        · rw [hpk] at HS
          clear hpk
          go_wp2_with fail
          go_round
          case rel => exact ⟨k + 1, by omega, by go_num, by rw [HS.out]; rfl⟩
          case measure => simp [intOf] <;> omega
      · obtain rfl : k = m := by omega
        rw [HT.out]
        rcases HZ.out with ⟨_, rfl, hp⟩ | ⟨hp, j, rfl, hj, x, hx, hpx⟩
        · rw [hp]
          clear hp HZ HT
          go_wp2_with fail
          refine (C1.out _ D.out).mono ?_
          rintro e w3 ⟨rfl, k3⟩
          have D3 := Lib.hid (next0 D.out k3)
          clear k3
          go_wp2_with fail
          refine (C5.out _).mono ?_
          rintro e w4 ⟨rfl, k4⟩
          have D4 := next1 D3.out k4
          go_wp2_with fail
          go_ret
          exact ⟨rfl, D4⟩
        · rw [hp]
          clear hp HZ HT
          go_wp2_with fail
          refine (C1.out _ D.out).mono ?_
          rintro e w3 ⟨rfl, k3⟩
          have D3 := Lib.hid (next0 D.out k3)
          have W3 := HW.out _ D3.out
          have c := W3.2 j x hx
          have d := W3.1
          clear k3 hx W2 W3
          go_wp2_with fail
          refine (C5.out _).mono ?_
          rintro e w4 ⟨rfl, k4⟩
          have D4 := next1 D3.out k4
          go_wp2_with fail
          go_ret
          exact ⟨rfl, D4⟩
theorem bounds_nil (s n : Int) (a : Option Addr) (cap : Nat) (w : World) (h' : n ≤ 9223372036854775807) : Calls Try.prog 9 #[.int .u64 s, .int .i64 n, .slice a 0 cap] w fun e w' => e = .returned (.bool true) ∧ Below w.heap.size w w' :=
  bounds_idle s n a 0 cap w s h' (by omega) (Or.inr rfl) (fun w' _ => pick_none s a cap w')
theorem bounds_all (s n : Int) (b off m cap : Nat) (l : List Int) (w : World) (h' : n ≤ 9223372036854775807) (hw : Ws w b off l) (hl : l.length = m) : Calls Try.prog 9 #[.int .u64 s, .int .i64 n, .slice (some ⟨b, off, none⟩) m cap] w fun e w' => e = .returned (.bool true) ∧ Below w.heap.size w w' := by
  by_cases h5 : 5000 < m
  · exact bounds_long s n _ m cap w h5
  · by_cases h4 : 4096 < m
    · exact bounds_idle s n _ m cap w s h' (by omega) (Or.inl h4) (fun w' _ => pick_long s _ m cap w' h4)
    · exact bounds_some s n b off m cap l w h' (by omega) hw hl
end RandL5
end Go.Proofs.Ytdnonfoidamkcaa
