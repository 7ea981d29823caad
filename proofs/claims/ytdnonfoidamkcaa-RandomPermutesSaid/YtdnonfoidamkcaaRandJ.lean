/- Pick of the reference. -/
import Derived.Test.YtdnonfoidamkcaaRandH
namespace Go.Proofs.Ytdnonfoidamkcaa
open Go Go.RowKit
namespace RandJ
open Kit RandM RandA RandB RandC RandD RandG RandH
set_option maxRecDepth 100000 in
set_option maxHeartbeats 1600000 in
theorem rpick_long (s : Int) (a : Option Addr) (m cap : Nat) (w : World) (hm : 4096 < m) :
    Calls Try.prog 24 #[.agg #[.int .u64 s], .slice a m cap] w fun e w' => e = .returned (pk (s, -1)) ∧ Below w.heap.size w w' := by
  go_enter Try.func24, Try.ntmps24
  go_wp2_with fail
  exact bodyPost_ret (v := pk (s, -1)) (by simp [pk, results, Try.results24, go_sem]) rfl ⟨rfl, begins w s s⟩
set_option maxRecDepth 100000 in
set_option maxHeartbeats 1600000 in
theorem rpick_none (s : Int) (a : Option Addr) (cap : Nat) (w : World) :
    Calls Try.prog 24 #[.agg #[.int .u64 s], .slice a 0 cap] w fun e w' => e = .returned (pk (s, -1)) ∧ Below w.heap.size w w' := by
  go_enter Try.func24, Try.ntmps24
  go_wp2_with fail
  go_loop [6, 7] (fun t i => t = .int .i64 0 ∧ i = .int .i64 0) (fun _ _ => 0)
  case atStart => exact ⟨rfl, rfl⟩
  case round =>
    obtain ⟨rfl, rfl⟩ := hrel
    go_wp2_with fail
    exact bodyPost_ret (v := pk (s, -1)) (by simp [pk, results, Try.results24, go_sem]) rfl ⟨rfl, begins w s s⟩
/-- The reference's index: the first one up to which the sum is greater than k. -/
theorem at_sum (l : List Int) (k : Int) (i : Nat) (x : Int) (h : l[i]? = some x) : at_ (l.drop i) (k - sumW (l.take i)) i = if k < sumW (l.take (i + 1)) then (i : Int) else at_ (l.drop (i + 1)) (k - sumW (l.take (i + 1))) (i + 1) := by
  rw [at_next l _ i x h, sumW_take l i x h]
  by_cases c : k < sumW (l.take i) + wt x
  · rw [if_pos c, if_pos (by omega)]
  · rw [if_neg c, if_neg (by omega), show k - sumW (l.take i) - wt x = k - (sumW (l.take i) + wt x) from by omega]
set_option maxRecDepth 100000 in
set_option maxHeartbeats 3200000 in
theorem rpick_some (b off m cap : Nat) (l : List Int) (s : Int) (w : World) (hw : Ws w b off l) (hl : l.length = m) (hm : m ≤ 4096) :
    Calls Try.prog 24 #[.agg #[.int .u64 s], .slice (some ⟨b, off, none⟩) m cap] w fun e w' => e = .returned (pk (pickF s l)) ∧ Below w.heap.size w w' := by
  have HL := Lib.hid hl
  have S0 := begins w s 0
  have HW := Lib.hid (hw.below S0 hw.1)
  have hbl := hw.1
  have hsum := sumW_in l
  rw [hl] at hsum
  have HP : Hid (pickF s l = if sumW l = 0 then (s, -1) else (stp s, at_ l (mix s % sumW l) 0)) := by
    unfold pickF; rw [if_neg (by omega)]; exact rfl
  have HT : Hid (sumW (l.take m) = sumW l) := by rw [List.take_of_length_le (by omega)]; exact rfl
  generalize pickF s l = R at *
  clear hl hw S0
  go_enter Try.func24, Try.ntmps24
  go_wp2_with fail
  go_loop [6, 7] (fun t i => ∃ j : Nat, j ≤ m ∧ i = .int .i64 j ∧ t = .int .i64 (sumW (l.take j))) (fun _ i => m - (intOf i).toNat)
  case atStart => exact ⟨0, Nat.zero_le _, rfl, rfl⟩
  case round =>
    obtain ⟨j, hj, rfl, rfl⟩ := hrel
    by_cases hlt : j < m
    · obtain ⟨x, hx⟩ : ∃ x, l[j]? = some x := ⟨l[j]'(by rw [HL.out]; exact hlt), by simp⟩
      have c := HW.out.2 j x hx
      have HS := Lib.hid (sumW_take l j x hx)
      have hb1 := sumW_in (l.take j)
      have hb2 : (l.take j).length ≤ j := List.length_take_le _ _
      have hwt := wt_in x
      have LM := Lib.hid (fun w => weight_any x w)
      clear hx
      generalize sumW (l.take j) = u at *
      generalize wt x = y at *
      go_wp2_with fail
      refine (LM.out _).mono ?_
      rintro e w' ⟨rfl, rfl⟩
      go_wp2_with fail
      go_round
      case rel => exact ⟨j + 1, by omega, by go_num, by rw [HS.out]⟩
      case measure => simp [intOf] <;> omega
    · obtain rfl : j = m := by omega
      rw [HT.out]
      clear HT
      by_cases hz : sumW l = 0
      · have h := HP.out
        rw [if_pos hz] at h
        have HF := Lib.hid h
        rw [hz]
        clear hz HP hsum h
        go_wp2_with fail
        exact bodyPost_ret (v := pk (s, -1)) (by simp [pk, results, Try.results24, go_sem]) rfl ⟨by rw [HF.out], begins w s s⟩
      · have h := HP.out
        rw [if_neg hz] at h
        have h1 : 1 ≤ sumW l := by omega
        have hmod := mod_in s (sumW l) h1
        obtain ⟨q, hq⟩ := Int.eq_ofNat_of_zero_le hmod.1
        have hz' : (sumW l == 0) = false := by simpa using hz
        have DR := Lib.hid (fun w => rbelow_hi s (sumW l) w h1 (by omega))
        rw [hq] at hmod h DR
        have HF := Lib.hid h
        have hq1 : (q : Int) ≤ 281474976710656 := by omega
        clear hq hz HP h
        have A1 := Has.new1 w (.cells #[.int .u64 s] 24) 24 #[.int .u64 0]
        have B3 := begins w s 0
        have HZ : Hid (at_ (l.drop 0) ((q : Int) - sumW (l.take 0)) 0 = at_ l q 0) := by
          have e : (q : Int) - sumW (l.take 0) = q := by simp [sumW]
          rw [List.drop_zero, e]; exact rfl
        have SA : Hid (∀ i, 0 ≤ sumW (l.take i) ∧ sumW (l.take i) ≤ 4294967296 * 4096) := Lib.hid (fun i => by
          have h := sumW_in (l.take i)
          have h2 : (l.take i).length ≤ l.length := List.length_take_le' _ _
          have h3 := HL.out
          omega)
        generalize at_ l (q : Int) 0 = z at *
        generalize sumW l = u at *
        go_wp2_with fail
        refine (DR.out _).mono ?_
        rintro e w1 ⟨rfl, k1⟩
        have W1 := Lib.hid (HW.out.below k1 HW.out.1)
        have G1 := A1.step0 k1
        have B1 := Lib.hid (next0 B3 k1)
        generalize hg : w1.heap.size = g1
        generalize stp s = s' at *
        have C1 : Has (w1.alloc (.cells #[.int .u64 s'] 24)) g1 #[.int .u64 s'] := by subst hg; exact Has.new _ _ _
        have G2 := Lib.hid (G1.alloc (.cells #[.int .u64 s'] 24))
        have W2 := Lib.hid (W1.out.below (below_alloc w1 (.cells #[.int .u64 s'] 24)) W1.out.1)
        have B2 := Lib.hid (next0 B1.out (below_alloc w1 (.cells #[.int .u64 s'] 24)))
        have lt1 : w.heap.size + 1 < g1 := by subst hg; exact G1.lt
        clear A1 B3 k1 HW W1 G1 B1
        have r0 := C1.cell 0
        have r1 := G2.out.cell 0
        have r2 := G2.out.free 0
        have r3 := G2.out.lt
        simp only [List.getElem?_toArray, List.getElem?_cons_zero] at r0 r1
        clear C1
        go_wp2_with fail
        clear hg
        generalize w1.alloc (.cells #[.int .u64 s'] 24) = w2 at *
        go_loop [6, 10] (fun t i => ∃ i' : Nat, i' ≤ j ∧ i = .int .i64 i' ∧ t = .int .i64 (sumW (l.take i')) ∧ Hid (at_ (l.drop i') ((q : Int) - sumW (l.take i')) i' = z)) (fun _ i => j - (intOf i).toNat)
        case atStart => exact ⟨0, Nat.zero_le _, rfl, rfl, HZ⟩
        case round =>
          obtain ⟨i, hi, rfl, rfl, hz⟩ := hrel
          by_cases hlt : i < j
          · obtain ⟨x, hx⟩ : ∃ x, l[i]? = some x := ⟨l[i]'(by rw [HL.out]; exact hlt), by simp⟩
            have c := W2.out.2 i x hx
            have HS := Lib.hid (sumW_take l i x hx)
            have hn := at_sum l q i x hx
            have hb1 := SA.out i
            have hb2 := SA.out (i + 1)
            rw [hz.out] at hn
            have hwt := wt_in x
            have LM := Lib.hid (fun w => weight_any x w)
            rw [HS.out] at hb2 hn
            clear hx hz HZ
            generalize hv : sumW (l.take i) = v at *
            generalize wt x = y at *
            by_cases hc : (q : Int) < v + y
            · rw [if_pos hc] at hn
              subst hn
              go_wp2_with fail
              refine (LM.out _).mono ?_
              rintro e w' ⟨rfl, rfl⟩
              go_wp2_with fail
              exact bodyPost_ret (v := pk (s', i)) (by simp [pk, results, Try.results24, go_sem, r1]) rfl ⟨by rw [HF.out], B2.out.setCell (by simp <;> omega) _⟩
            · rw [if_neg hc] at hn
              have HN := Lib.hid hn.symm
              clear hn
              go_wp2_with fail
              refine (LM.out _).mono ?_
              rintro e w' ⟨rfl, rfl⟩
              go_wp2_with fail
              go_round
              case rel => exact ⟨i + 1, by omega, by go_num, by rw [HS.out], by rw [HS.out]; exact HN⟩
              case measure => simp [intOf] <;> omega
          · obtain rfl : i = j := by omega
            have he := at_end l ((q : Int) - sumW (l.take i)) i (by rw [HL.out]; exact Nat.le_refl _)
            rw [hz.out] at he
            subst he
            clear hz HZ
            go_wp2_with fail
            exact bodyPost_ret (v := pk (s', -1)) (by simp [pk, results, Try.results24, go_sem, r1]) rfl ⟨by rw [HF.out], B2.out.setCell (by simp <;> omega) _⟩
end RandJ
end Go.Proofs.Ytdnonfoidamkcaa
