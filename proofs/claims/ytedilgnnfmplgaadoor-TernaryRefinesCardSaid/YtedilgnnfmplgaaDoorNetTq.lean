/- Refines: whether values are those of others wherever these are known; the package's and the reference's. No conditions. Made by gnTq.py. -/
import Derived.Test.YtedilgnnfmplgaaDoorNetTt
import Derived.Test.YtedilgnnfmplgaaDoorGBB
import Derived.BigQuiet
namespace Go.Proofs.YtedilgnnfmplgaaDoor
open Go Go.RowKit
namespace NetTq
open Kit TermM TermI NetM NetN NetK NetA NetC NetTn NetTt
theorem refn_no {a b : List Int} (h : a.length ≠ b.length) : refN a b = false := by
  unfold refN
  rw [decide_eq_false h]
  rfl
theorem refn_bad {a b : List Int} {j : Nat} {x y : Int} (hx : a[j]? = some x) (hy : b[j]? = some y) (h : ref1 x y = false) : refN a b = false := by
  unfold refN
  rw [Bool.and_eq_false_iff]
  right
  rw [List.all_eq_false]
  refine ⟨ref1 x y, List.mem_of_getElem? (i := j) ?_, by rw [h]; decide⟩
  rw [List.getElem?_zipWith, hx, hy]
theorem refn_yes {a b : List Int} (hl : a.length = b.length) (h : ∀ j x y, j < b.length → a[j]? = some x → b[j]? = some y → ref1 x y = true) : refN a b = true := by
  unfold refN
  rw [Bool.and_eq_true, decide_eq_true_eq, List.all_eq_true]
  refine ⟨hl, fun z hz => ?_⟩
  obtain ⟨j, hj, rfl⟩ := List.getElem_of_mem hz
  rw [List.length_zipWith] at hj
  rw [List.getElem_zipWith]
  exact h j _ _ (by omega) (List.getElem?_eq_getElem _) (List.getElem?_eq_getElem _)
theorem ref_two {x y : Int} (h : tv y = 2) : ref1 x y = true := by unfold ref1; rw [decide_eq_true h]; rfl
theorem ref_eq {x y : Int} (h : tv y ≠ 2) : ref1 x y = decide (x = y) := by unfold ref1; rw [decide_eq_false h]; rfl
set_option maxRecDepth 100000 in
set_option maxHeartbeats 3200000 in
theorem refines_any (A L : List Int) (ok ok' : Nat → Prop) (w : World) (v v' : Value) (ha : RowE KN ok w A v) (hl : RowE KN ok' w L v') (hk : ∀ b, ok b → b < w.heap.size) (hk' : ∀ b, ok' b → b < w.heap.size) :
    Calls Tryd.prog 22 #[v, v'] w fun e w' => e = .returned (.bool (refN A L)) ∧ Below w.heap.size w w' := by
  obtain ⟨p, c, rfl⟩ := ha.form
  obtain ⟨p', c', rfl⟩ := hl.form
  have hcap : L.length ≤ maxLen := by obtain ⟨_, h1, h2⟩ := hl.cap; omega
  unfold maxLen at hcap
  have CA := Lib.hid (readn ha hk)
  have CL := Lib.hid (readn hl hk')
  have NO := Lib.hid (refn_no (a := A) (b := L))
  have BAD := Lib.hid (fun j x y => refn_bad (a := A) (b := L) (j := j) (x := x) (y := y))
  have YES := Lib.hid (refn_yes (a := A) (b := L))
  clear ha hl hk hk'
  generalize refN A L = R at *
  generalize hn : A.length = n at *
  have HN := Lib.hid hn
  generalize hm : L.length = m at *
  have HM := Lib.hid hm
  clear hn hm
  by_cases hnm : n = m
  rotate_left
  · have e0 := Lib.hid (NO.out hnm)
    have i1 : ((n : Int) != (m : Int)) = true := by simp; omega
    clear hnm NO BAD YES
    go_enter Tryd.func22, Tryd.ntmps22
    go_wp2_with fail
    go_ret
    exact ⟨by rw [e0.out]; rfl, Below.refl _ _⟩
  subst hnm
  have YESa := Lib.hid (YES.out rfl)
  clear NO YES
  go_enter Tryd.func22, Tryd.ntmps22
  go_wp2_with fail
  go_loopw [14] (fun i wr => ∃ k : Nat, k ≤ n ∧ i = .int .i64 k ∧ Hid (∀ j x y, j < k → A[j]? = some x → L[j]? = some y → ref1 x y = true) ∧ Hid (Below w.heap.size w wr)) (fun i _ => n - (intOf i).toNat)
  case atStart => exact ⟨0, Nat.zero_le _, rfl, Lib.hid (fun j x y hj => by omega), Lib.hid (Below.refl _ _)⟩
  case round =>
    obtain ⟨k, hk, rfl, hT, hD⟩ := hrel
    by_cases hlt : k < n
    · obtain ⟨x, hx⟩ : ∃ x, A[k]? = some x := ⟨A[k]'(by rw [HN.out]; exact hlt), by simp⟩
      obtain ⟨y, hy⟩ : ∃ y, L[k]? = some y := ⟨L[k]'(by rw [HM.out]; exact hlt), by simp⟩
      obtain ⟨g, o, rfl, c1⟩ := CA.out k x hx wr hD.out
      obtain ⟨g', o', rfl, c2⟩ := CL.out k y hy wr hD.out
      have j0 : (0 : Int) ≤ (k : Int) := by omega
      have j1 : (k : Int) < n := by omega
      have BADk := Lib.hid (BAD.out k x y hx hy)
      have T2 : Hid (ref1 x y = true → ∀ j x y, j < k + 1 → A[j]? = some x → L[j]? = some y → ref1 x y = true) := Lib.hid (fun e j x' y' hj hx' hy' => by
        by_cases ej : j = k
        · subst ej
          rw [hx] at hx'
          rw [hy] at hy'
          rw [← Option.some.inj hx', ← Option.some.inj hy']
          exact e
        · exact hT.out j x' y' (by omega) hx' hy')
      have TWO := Lib.hid (ref_two (x := x) (y := y))
      have EQ := Lib.hid (ref_eq (x := x) (y := y))
      clear hx hy BAD
      have VC := Lib.hid (value_any y wr)
      by_cases h2 : tv y = 2
      · have i2 : (tv y != 2) = false := by simp [h2]
        have T3' := Lib.hid (T2.out (TWO.out h2))
        clear h2 T2 TWO EQ BADk
        generalize tv y = z at *
        go_wp2_with fail
        refine VC.out.mono ?_
        rintro e w5 ⟨rfl, rfl⟩
        go_wp2_with fail
        go_roundw
        case rel => first | exact ⟨k + 1, by omega, by go_num, T3', hD⟩ | ((repeat (apply Exists.intro)); refine ⟨?_, rfl⟩; exact ⟨k + 1, by omega, by go_num, T3', hD⟩)
        case measure => simp [intOf] <;> omega
      have i2 : (tv y != 2) = true := by simp [h2]
      have EQa := Lib.hid (EQ.out h2)
      clear h2 TWO EQ
      generalize tv y = z at *
      by_cases h3 : x = y
      · have i3 : (x != y) = false := by simp [h3]
        have T3' := Lib.hid (T2.out (EQa.out.trans (decide_eq_true h3)))
        clear h3 T2 EQa BADk
        go_wp2_with fail
        refine VC.out.mono ?_
        rintro e w5 ⟨rfl, rfl⟩
        go_wp2_with fail
        go_roundw
        case rel => first | exact ⟨k + 1, by omega, by go_num, T3', hD⟩ | ((repeat (apply Exists.intro)); refine ⟨?_, rfl⟩; exact ⟨k + 1, by omega, by go_num, T3', hD⟩)
        case measure => simp [intOf] <;> omega
      have i3 : (x != y) = true := by simp [h3]
      have e0 := Lib.hid (BADk.out (EQa.out.trans (decide_eq_false h3)))
      clear h3 T2 EQa BADk YESa
      go_wp2_with fail
      refine VC.out.mono ?_
      rintro e w5 ⟨rfl, rfl⟩
      go_wp2_with fail
      go_ret
      exact ⟨by rw [e0.out]; rfl, hD.out⟩
    · obtain rfl : k = n := by omega
      have e0 : Hid (R = true) := Lib.hid (YESa.out fun j x y hj hx hy => hT.out j x y hj hx hy)
      clear hT
      go_wp2_with fail
      go_ret
      exact ⟨by rw [e0.out]; rfl, hD.out⟩
set_option maxRecDepth 100000 in
set_option maxHeartbeats 3200000 in
theorem rrefines_any (A L : List Int) (ok ok' : Nat → Prop) (w : World) (v v' : Value) (ha : RowE KN ok w A v) (hl : RowE KN ok' w L v') (hk : ∀ b, ok b → b < w.heap.size) (hk' : ∀ b, ok' b → b < w.heap.size) :
    Calls Tryd.prog 23 #[v, v'] w fun e w' => e = .returned (.bool (refN A L)) ∧ Below w.heap.size w w' := by
  obtain ⟨p, c, rfl⟩ := ha.form
  obtain ⟨p', c', rfl⟩ := hl.form
  have hcap : L.length ≤ maxLen := by obtain ⟨_, h1, h2⟩ := hl.cap; omega
  unfold maxLen at hcap
  have CA := Lib.hid (readn ha hk)
  have CL := Lib.hid (readn hl hk')
  have NO := Lib.hid (refn_no (a := A) (b := L))
  have BAD := Lib.hid (fun j x y => refn_bad (a := A) (b := L) (j := j) (x := x) (y := y))
  have YES := Lib.hid (refn_yes (a := A) (b := L))
  clear ha hl hk hk'
  generalize refN A L = R at *
  generalize hn : A.length = n at *
  have HN := Lib.hid hn
  generalize hm : L.length = m at *
  have HM := Lib.hid hm
  clear hn hm
  by_cases hnm : n = m
  rotate_left
  · have e0 := Lib.hid (NO.out hnm)
    have i1 : ((n : Int) != (m : Int)) = true := by simp; omega
    clear hnm NO BAD YES
    go_enter Tryd.func23, Tryd.ntmps23
    go_wp2_with fail
    go_ret
    exact ⟨by rw [e0.out]; rfl, Below.refl _ _⟩
  subst hnm
  have YESa := Lib.hid (YES.out rfl)
  clear NO YES
  go_enter Tryd.func23, Tryd.ntmps23
  go_wp2_with fail
  go_loopw [5] (fun i wr => ∃ k : Nat, k ≤ n ∧ i = .int .i64 k ∧ Hid (∀ j x y, j < k → A[j]? = some x → L[j]? = some y → ref1 x y = true) ∧ Hid (Below w.heap.size w wr)) (fun i _ => n - (intOf i).toNat)
  case atStart => exact ⟨0, Nat.zero_le _, rfl, Lib.hid (fun j x y hj => by omega), Lib.hid (Below.refl _ _)⟩
  case round =>
    obtain ⟨k, hk, rfl, hT, hD⟩ := hrel
    by_cases hlt : k < n
    · obtain ⟨x, hx⟩ : ∃ x, A[k]? = some x := ⟨A[k]'(by rw [HN.out]; exact hlt), by simp⟩
      obtain ⟨y, hy⟩ : ∃ y, L[k]? = some y := ⟨L[k]'(by rw [HM.out]; exact hlt), by simp⟩
      obtain ⟨g, o, rfl, c1⟩ := CA.out k x hx wr hD.out
      obtain ⟨g', o', rfl, c2⟩ := CL.out k y hy wr hD.out
      have j0 : (0 : Int) ≤ (k : Int) := by omega
      have j1 : (k : Int) < n := by omega
      have BADk := Lib.hid (BAD.out k x y hx hy)
      have T2 : Hid (ref1 x y = true → ∀ j x y, j < k + 1 → A[j]? = some x → L[j]? = some y → ref1 x y = true) := Lib.hid (fun e j x' y' hj hx' hy' => by
        by_cases ej : j = k
        · subst ej
          rw [hx] at hx'
          rw [hy] at hy'
          rw [← Option.some.inj hx', ← Option.some.inj hy']
          exact e
        · exact hT.out j x' y' (by omega) hx' hy')
      have TWO := Lib.hid (ref_two (x := x) (y := y))
      have EQ := Lib.hid (ref_eq (x := x) (y := y))
      clear hx hy BAD
      have TC := Lib.hid (tv_cases y)
      by_cases q0 : y = 0
      · have i0 : (y == 0) = true := by simp [q0]
        have EQa := Lib.hid (EQ.out (by rw [q0]; decide))
        clear EQ TWO TC q0
        by_cases h3 : x = y
        · have i3 : (x != y) = false := by simp [h3]
          have T3' := Lib.hid (T2.out (EQa.out.trans (decide_eq_true h3)))
          have D' : Hid (Below w.heap.size w wr) := hD
          clear h3 T2 EQa BADk
          go_wp2_with fail
          go_quiet (fail)
          go_wp2_with fail
          go_roundw
          case rel => first | exact ⟨k + 1, by omega, by go_num, T3', (Lib.hid (below_drewN hD.out _))⟩ | ((repeat (apply Exists.intro)); refine ⟨?_, rfl⟩; exact ⟨k + 1, by omega, by go_num, T3', (Lib.hid (below_drewN hD.out _))⟩)
          case measure => simp [intOf] <;> omega
        have i3 : (x != y) = true := by simp [h3]
        have e0 := Lib.hid (BADk.out (EQa.out.trans (decide_eq_false h3)))
        clear h3 T2 EQa BADk YESa
        go_wp2_with fail
        go_quiet (fail)
        go_wp2_with fail
        go_ret
        exact ⟨by rw [e0.out]; rfl, (Lib.hid (below_drewN hD.out _)).out⟩
      have i0 : (y == 0) = false := by simp [q0]
      by_cases q1 : y = 1
      · have i1 : (y == 1) = true := by simp [q1]
        have EQa := Lib.hid (EQ.out (by rw [q1]; decide))
        clear EQ TWO TC q0 q1
        by_cases h3 : x = y
        · have i3 : (x != y) = false := by simp [h3]
          have T3' := Lib.hid (T2.out (EQa.out.trans (decide_eq_true h3)))
          clear h3 T2 EQa BADk
          go_wp2_with fail
          go_quiet (fail)
          go_wp2_with fail
          go_roundw
          case rel => first | exact ⟨k + 1, by omega, by go_num, T3', (Lib.hid (below_drewN hD.out _))⟩ | ((repeat (apply Exists.intro)); refine ⟨?_, rfl⟩; exact ⟨k + 1, by omega, by go_num, T3', (Lib.hid (below_drewN hD.out _))⟩)
          case measure => simp [intOf] <;> omega
        have i3 : (x != y) = true := by simp [h3]
        have e0 := Lib.hid (BADk.out (EQa.out.trans (decide_eq_false h3)))
        clear h3 T2 EQa BADk YESa
        go_wp2_with fail
        go_quiet (fail)
        go_wp2_with fail
        go_ret
        exact ⟨by rw [e0.out]; rfl, (Lib.hid (below_drewN hD.out _)).out⟩
      have i1 : (y == 1) = false := by simp [q1]
      have T3' := Lib.hid (T2.out (TWO.out (by rcases TC.out with h | h | h; exact absurd h.1 q0; exact absurd h.1 q1; exact h.2.2)))
      clear q0 q1 T2 EQ TWO TC BADk
      go_wp2_with fail
      go_quiet (fail)
      go_wp2_with fail
      go_roundw
      case rel => first | exact ⟨k + 1, by omega, by go_num, T3', (Lib.hid (below_drewN hD.out _))⟩ | ((repeat (apply Exists.intro)); refine ⟨?_, rfl⟩; exact ⟨k + 1, by omega, by go_num, T3', (Lib.hid (below_drewN hD.out _))⟩)
      case measure => simp [intOf] <;> omega
    · obtain rfl : k = n := by omega
      have e0 : Hid (R = true) := Lib.hid (YESa.out fun j x y hj hx hy => hT.out j x y hj hx hy)
      clear hT
      go_wp2_with fail
      go_ret
      exact ⟨by rw [e0.out]; rfl, hD.out⟩
end NetTq
end Go.Proofs.YtedilgnnfmplgaaDoor
