/- The walks of three laws of layer 3: RandomNexts, RandomSeeds, RandomSplits. No conditions but the bounds of the arguments. -/
import Derived.Test.YtdnonfoidamkcaaRandW
namespace Go.Proofs.Ytdnonfoidamkcaa
open Go Go.RowKit
namespace RandL1
open Kit RandM RandA RandB RandC RandD RandE RandG RandH RandW
def blF (s n : Int) : Int × Int := if n < 1 then (s, 0) else (stp s, mix s % n)
theorem below_any (s n : Int) (w : World) (h' : n ≤ 9223372036854775807) :
    Calls Try.prog 14 #[.agg #[.int .u64 s], .int .i64 n] w fun e w' => e = .returned (.tuple #[.agg #[.int .u64 (blF s n).1], .int .i64 (blF s n).2]) ∧ Below w.heap.size w w' := by
  unfold blF
  by_cases h : n < 1
  · rw [if_pos h]; exact below_lo s n w h
  · rw [if_neg h]; exact below_hi s n w (by omega) h'
theorem rbelow_any (s n : Int) (w : World) (h' : n ≤ 9223372036854775807) :
    Calls Try.prog 15 #[.agg #[.int .u64 s], .int .i64 n] w fun e w' => e = .returned (.tuple #[.agg #[.int .u64 (blF s n).1], .int .i64 (blF s n).2]) ∧ Below w.heap.size w w' := by
  unfold blF
  by_cases h : n < 1
  · rw [if_pos h]; exact rbelow_lo s n w h
  · rw [if_neg h]; exact rbelow_hi s n w (by omega) h'
theorem split_any (s : Int) (w : World) :
    Calls Try.prog 19 #[.agg #[.int .u64 s]] w fun e w' => e = .returned (.tuple #[.agg #[.int .u64 (mix s)], .agg #[.int .u64 (mix (stp s))]]) ∧ Below w.heap.size w w' := by
  have C1 := Lib.hid (fun w => next_any s w)
  have C2 := Lib.hid (fun w => next_any (stp s) w)
  generalize mix (stp s) = y at *
  generalize mix s = x at *
  generalize stp (stp s) = s2 at *
  generalize stp s = s1 at *
  go_enter Try.func19, Try.ntmps19
  go_wp2_with fail
  refine (C1.out _).mono ?_
  rintro e w1 ⟨rfl, k1⟩
  have A1 := Lib.hid (Has.below (((Has.new w 24 #[.int .u64 s]).alloc (.cells #[.int .u64 0] 24)).alloc (.cells #[.int .u64 0] 24)) k1 (by simp <;> omega))
  have A2 := Lib.hid (Has.below ((Has.new1 w (.cells #[.int .u64 s] 24) 24 #[.int .u64 0]).alloc (.cells #[.int .u64 0] 24)) k1 (by simp <;> omega))
  have A3 := Lib.hid (Has.below (Has.new2 w (.cells #[.int .u64 s] 24) (.cells #[.int .u64 0] 24) 24 #[.int .u64 0]) k1 (by simp <;> omega))
  have D := Lib.hid (Below.trans ((((below_alloc w (.cells #[.int .u64 s] 24)).alloc (by simp) (.cells #[.int .u64 0] 24))).alloc (by simp <;> omega) (.cells #[.int .u64 0] 24)) (k1.mono (by simp; omega)))
  clear k1
  have A1' := Lib.hid (A1.out.set 0 (.int .u64 s1))
  have A2' := Lib.hid (A2.out.far (p := ⟨w.heap.size, 0, none⟩) (by simp <;> omega) (.int .u64 s1))
  have A3' := Lib.hid (A3.out.far (p := ⟨w.heap.size, 0, none⟩) (by simp <;> omega) (.int .u64 s1))
  have D' := Lib.hid (D.out.setCell (p := ⟨w.heap.size, 0, none⟩) (by simp) (.int .u64 s1))
  have c1 := A1.out.cell 0
  have f1 := A1.out.free 0
  have l1 := A1.out.lt
  simp only [List.getElem?_toArray, List.getElem?_cons_zero] at c1
  clear A1 A2 A3 D
  go_wp2_with fail
  refine (C2.out _).mono ?_
  rintro e w2 ⟨rfl, k2⟩
  have A2 := Lib.hid (Has.step0 A2'.out k2)
  have A3 := Lib.hid (Has.step0 A3'.out k2)
  have D := Lib.hid (next0 D'.out k2)
  clear k2 A1' A2' A3' D' c1 f1 l1
  go_wp2_with fail
  refine (new_any _ _).mono ?_
  rintro e w3 ⟨rfl, k3⟩
  have A2 := Lib.hid (Has.step A2.out k3)
  have A3 := Lib.hid (Has.step A3.out k3)
  have D := Lib.hid (next1 D.out k3)
  clear k3
  go_wp2_with fail
  refine (new_any _ _).mono ?_
  rintro e w4 ⟨rfl, k4⟩
  have A2 := Lib.hid (Has.step0 A2.out k4)
  have A3 := Lib.hid (Has.step0 A3.out k4)
  have D := Lib.hid (next0 D.out k4)
  clear k4
  have c2 := A2.out.cell 0
  have f2 := A2.out.free 0
  have l2 := A2.out.lt
  have c3 := A3.out.cell 0
  have f3 := A3.out.free 0
  have l3 := A3.out.lt
  simp only [List.getElem?_toArray, List.getElem?_cons_zero] at c2 c3
  go_wp2_with fail
  exact bodyPost_ret (v := .tuple #[.agg #[.int .u64 x], .agg #[.int .u64 y]]) (by simp [results, Try.results19, go_sem, c2, c3]) rfl ⟨rfl, (D.out.setCell (by simp <;> omega) _).setCell (by simp <;> omega) _⟩
set_option maxRecDepth 100000 in
set_option maxHeartbeats 3200000 in
theorem nexts (s n : Int) (w : World) (h' : n ≤ 9223372036854775807) :
    Calls Try.prog 3 #[.int .u64 s, .int .i64 n] w fun e w' => e = .returned (.bool true) ∧ Below w.heap.size w w' := by
  have C1 := Lib.hid (fun w => next_any s w)
  have C2 := Lib.hid (fun w => rnext_any s w)
  have C3 := Lib.hid (fun w => below_any s n w h')
  have C4 := Lib.hid (fun w => rbelow_any s n w h')
  have C5 := Lib.hid awake_any
  generalize (blF s n).2 = y2 at *
  generalize (blF s n).1 = y1 at *
  generalize mix s = x at *
  generalize stp s = s1 at *
  go_enter Try.func3, Try.ntmps3
  go_wp2_with fail
  refine (new_any _ _).mono ?_
  rintro e w1 ⟨rfl, k1⟩
  have D := Lib.hid k1
  clear k1
  go_wp2_with fail
  refine (C1.out _).mono ?_
  rintro e w2 ⟨rfl, k2⟩
  have A1 := Lib.hid (Has.made k2)
  have D := Lib.hid (by first | exact next0 D.out k2 | exact next1 D.out k2 | exact next0 D.out (next2 k2))
  clear k2
  have cA1 := A1.out.cell 0
  have lA1 := A1.out.lt
  simp only [List.getElem?_toArray, List.getElem?_cons_zero] at cA1
  go_wp2_with fail
  refine (C2.out _).mono ?_
  rintro e w3 ⟨rfl, k3⟩
  clear cA1 lA1
  have A1 := Lib.hid (by first | exact Has.step0 A1.out k3 | exact Has.step A1.out k3 | exact Has.below ((A1.out.alloc _).alloc _) k3 (by have := A1.out.lt; simp; omega))
  have A2 := Lib.hid (Has.made k3)
  have D := Lib.hid (by first | exact next0 D.out k3 | exact next1 D.out k3 | exact next0 D.out (next2 k3))
  clear k3
  have cA1 := A1.out.cell 0
  have lA1 := A1.out.lt
  have cA2 := A2.out.cell 0
  have lA2 := A2.out.lt
  simp only [List.getElem?_toArray, List.getElem?_cons_zero] at cA1 cA2
  go_wp2_with fail
  refine (C3.out _).mono ?_
  rintro e w4 ⟨rfl, k4⟩
  clear cA1 lA1 cA2 lA2
  have A1 := Lib.hid (by first | exact Has.step0 A1.out k4 | exact Has.step A1.out k4 | exact Has.below ((A1.out.alloc _).alloc _) k4 (by have := A1.out.lt; simp; omega))
  have A2 := Lib.hid (by first | exact Has.step0 A2.out k4 | exact Has.step A2.out k4 | exact Has.below ((A2.out.alloc _).alloc _) k4 (by have := A2.out.lt; simp; omega))
  have A3 := Lib.hid (Has.made k4)
  have D := Lib.hid (by first | exact next0 D.out k4 | exact next1 D.out k4 | exact next0 D.out (next2 k4))
  clear k4
  have cA1 := A1.out.cell 0
  have lA1 := A1.out.lt
  have cA2 := A2.out.cell 0
  have lA2 := A2.out.lt
  have cA3 := A3.out.cell 0
  have lA3 := A3.out.lt
  simp only [List.getElem?_toArray, List.getElem?_cons_zero] at cA1 cA2 cA3
  go_wp2_with fail
  refine (C4.out _).mono ?_
  rintro e w5 ⟨rfl, k5⟩
  clear cA1 lA1 cA2 lA2 cA3 lA3
  have A1 := Lib.hid (by first | exact Has.step0 A1.out k5 | exact Has.step A1.out k5 | exact Has.below ((A1.out.alloc _).alloc _) k5 (by have := A1.out.lt; simp; omega))
  have A2 := Lib.hid (by first | exact Has.step0 A2.out k5 | exact Has.step A2.out k5 | exact Has.below ((A2.out.alloc _).alloc _) k5 (by have := A2.out.lt; simp; omega))
  have A3 := Lib.hid (by first | exact Has.step0 A3.out k5 | exact Has.step A3.out k5 | exact Has.below ((A3.out.alloc _).alloc _) k5 (by have := A3.out.lt; simp; omega))
  have A4 := Lib.hid (Has.made k5)
  have D := Lib.hid (by first | exact next0 D.out k5 | exact next1 D.out k5 | exact next0 D.out (next2 k5))
  clear k5
  have cA1 := A1.out.cell 0
  have lA1 := A1.out.lt
  have cA2 := A2.out.cell 0
  have lA2 := A2.out.lt
  have cA3 := A3.out.cell 0
  have lA3 := A3.out.lt
  have cA4 := A4.out.cell 0
  have lA4 := A4.out.lt
  simp only [List.getElem?_toArray, List.getElem?_cons_zero] at cA1 cA2 cA3 cA4
  go_wp2_with fail
  refine (C5.out _).mono ?_
  rintro e w6 ⟨rfl, k6⟩
  clear cA1 lA1 cA2 lA2 cA3 lA3 cA4 lA4
  have A1 := Lib.hid (by first | exact Has.step0 A1.out k6 | exact Has.step A1.out k6 | exact Has.below ((A1.out.alloc _).alloc _) k6 (by have := A1.out.lt; simp; omega))
  have A2 := Lib.hid (by first | exact Has.step0 A2.out k6 | exact Has.step A2.out k6 | exact Has.below ((A2.out.alloc _).alloc _) k6 (by have := A2.out.lt; simp; omega))
  have A3 := Lib.hid (by first | exact Has.step0 A3.out k6 | exact Has.step A3.out k6 | exact Has.below ((A3.out.alloc _).alloc _) k6 (by have := A3.out.lt; simp; omega))
  have A4 := Lib.hid (by first | exact Has.step0 A4.out k6 | exact Has.step A4.out k6 | exact Has.below ((A4.out.alloc _).alloc _) k6 (by have := A4.out.lt; simp; omega))
  have A5 := Lib.hid (Has.made k6)
  have D := Lib.hid (by first | exact next0 D.out k6 | exact next1 D.out k6 | exact next0 D.out (next2 k6))
  clear k6
  go_wp2_with fail
  go_ret
  exact ⟨rfl, D.out⟩
set_option maxHeartbeats 1600000 in
theorem seeds (s : ByteArray) (w : World) (hs : s.size ≤ maxLen) :
    Calls Try.prog 4 #[.string s] w fun e w' => e = .returned (.bool true) ∧ Below w.heap.size w w' := by
  have C1 := Lib.hid (fun w => seed_any s w hs)
  have C2 := Lib.hid (fun w => rseed_any s w hs)
  have C5 := Lib.hid awake_any
  generalize fnv 14695981039346656037 s.data.toList = z at *
  by_cases h : 2000 < s.size
  · go_enter Try.func4, Try.ntmps4
    go_wp2_with fail
    refine (C5.out _).mono ?_
    rintro e w1 ⟨rfl, k1⟩
    go_wp2_with fail
    go_ret
    exact ⟨rfl, k1⟩
  · go_enter Try.func4, Try.ntmps4
    go_wp2_with fail
    refine (C1.out _).mono ?_
    rintro e w1 ⟨rfl, rfl⟩
    go_wp2_with fail
    refine (C2.out _).mono ?_
    rintro e w1 ⟨rfl, rfl⟩
    go_wp2_with fail
    refine (C5.out _).mono ?_
    rintro e w1 ⟨rfl, k1⟩
    go_wp2_with fail
    go_ret
    exact ⟨rfl, k1⟩
set_option maxRecDepth 100000 in
set_option maxHeartbeats 3200000 in
theorem splits (s : Int) (w : World) :
    Calls Try.prog 5 #[.int .u64 s] w fun e w' => e = .returned (.bool true) ∧ Below w.heap.size w w' := by
  have C1 := Lib.hid (fun w => split_any s w)
  have C2 := Lib.hid (fun w => next_any s w)
  have C3 := Lib.hid (fun w => next_any (stp s) w)
  have C5 := Lib.hid awake_any
  generalize mix (stp s) = y at *
  generalize mix s = x at *
  generalize stp (stp s) = s2 at *
  generalize stp s = s1 at *
  go_enter Try.func5, Try.ntmps5
  go_wp2_with fail
  refine (new_any _ _).mono ?_
  rintro e w1 ⟨rfl, k1⟩
  have D := Lib.hid k1
  clear k1
  go_wp2_with fail
  refine (C1.out _).mono ?_
  rintro e w2 ⟨rfl, k2⟩
  have A1 := Lib.hid (Has.made k2)
  have D := Lib.hid (by first | exact next0 D.out k2 | exact next1 D.out k2 | exact next0 D.out (next2 k2))
  clear k2
  have cA1 := A1.out.cell 0
  have lA1 := A1.out.lt
  simp only [List.getElem?_toArray, List.getElem?_cons_zero] at cA1
  go_wp2_with fail
  refine (C2.out _).mono ?_
  rintro e w3 ⟨rfl, k3⟩
  clear cA1 lA1
  have A1 := Lib.hid (by first | exact Has.step0 A1.out k3 | exact Has.step A1.out k3 | exact Has.below ((A1.out.alloc _).alloc _) k3 (by have := A1.out.lt; simp; omega))
  have A2 := Lib.hid (Has.below ((Has.new w2 24 #[.int .u64 x]).alloc (.cells #[.int .u64 y] 24)) k3 (by simp <;> omega))
  have A3 := Lib.hid (Has.below (Has.new1 w2 (.cells #[.int .u64 x] 24) 24 #[.int .u64 y]) k3 (by simp <;> omega))
  have D := Lib.hid (by first | exact next0 D.out k3 | exact next1 D.out k3 | exact next0 D.out (next2 k3))
  clear k3
  have cA1 := A1.out.cell 0
  have lA1 := A1.out.lt
  have cA2 := A2.out.cell 0
  have lA2 := A2.out.lt
  have cA3 := A3.out.cell 0
  have lA3 := A3.out.lt
  simp only [List.getElem?_toArray, List.getElem?_cons_zero] at cA1 cA2 cA3
  go_wp2_with fail
  refine (C3.out _).mono ?_
  rintro e w4 ⟨rfl, k4⟩
  clear cA1 lA1 cA2 lA2 cA3 lA3
  have A1 := Lib.hid (by first | exact Has.step0 A1.out k4 | exact Has.step A1.out k4 | exact Has.below ((A1.out.alloc _).alloc _) k4 (by have := A1.out.lt; simp; omega))
  have A2 := Lib.hid (by first | exact Has.step0 A2.out k4 | exact Has.step A2.out k4 | exact Has.below ((A2.out.alloc _).alloc _) k4 (by have := A2.out.lt; simp; omega))
  have A3 := Lib.hid (by first | exact Has.step0 A3.out k4 | exact Has.step A3.out k4 | exact Has.below ((A3.out.alloc _).alloc _) k4 (by have := A3.out.lt; simp; omega))
  have A4 := Lib.hid (Has.made k4)
  have D := Lib.hid (by first | exact next0 D.out k4 | exact next1 D.out k4 | exact next0 D.out (next2 k4))
  clear k4
  have cA1 := A1.out.cell 0
  have lA1 := A1.out.lt
  have cA2 := A2.out.cell 0
  have lA2 := A2.out.lt
  have cA3 := A3.out.cell 0
  have lA3 := A3.out.lt
  have cA4 := A4.out.cell 0
  have lA4 := A4.out.lt
  simp only [List.getElem?_toArray, List.getElem?_cons_zero] at cA1 cA2 cA3 cA4
  go_wp2_with fail
  refine (C5.out _).mono ?_
  rintro e w5 ⟨rfl, k5⟩
  clear cA1 lA1 cA2 lA2 cA3 lA3 cA4 lA4
  have A1 := Lib.hid (by first | exact Has.step0 A1.out k5 | exact Has.step A1.out k5 | exact Has.below ((A1.out.alloc _).alloc _) k5 (by have := A1.out.lt; simp; omega))
  have A2 := Lib.hid (by first | exact Has.step0 A2.out k5 | exact Has.step A2.out k5 | exact Has.below ((A2.out.alloc _).alloc _) k5 (by have := A2.out.lt; simp; omega))
  have A3 := Lib.hid (by first | exact Has.step0 A3.out k5 | exact Has.step A3.out k5 | exact Has.below ((A3.out.alloc _).alloc _) k5 (by have := A3.out.lt; simp; omega))
  have A4 := Lib.hid (by first | exact Has.step0 A4.out k5 | exact Has.step A4.out k5 | exact Has.below ((A4.out.alloc _).alloc _) k5 (by have := A4.out.lt; simp; omega))
  have A5 := Lib.hid (Has.made k5)
  have D := Lib.hid (by first | exact next0 D.out k5 | exact next1 D.out k5 | exact next0 D.out (next2 k5))
  clear k5
  go_wp2_with fail
  go_ret
  exact ⟨rfl, D.out⟩
end RandL1
end Go.Proofs.Ytdnonfoidamkcaa
