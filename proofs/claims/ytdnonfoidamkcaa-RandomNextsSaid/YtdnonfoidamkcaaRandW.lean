/- The examples that every law of layer 3 runs (awake): they hold. No conditions. -/
import Derived.Test.YtdnonfoidamkcaaRandE
import Derived.Test.YtdnonfoidamkcaaRandH
namespace Go.Proofs.Ytdnonfoidamkcaa
open Go Go.RowKit
namespace RandW
open Kit RandM RandA RandB RandC RandD RandE RandG RandH
theorem e1 : (stp 0 == 11400714819323198485) = true := by decide +kernel
theorem e2 : (mix 0 == 16294208416658607535) = true := by decide +kernel
theorem e3 : (mix (stp 0) == 7960286522194355700) = true := by decide +kernel
theorem e4 : (mix 0 % 10 == 5) = true := by decide +kernel
theorem e5 : (fnv 14695981039346656037 [97] == 12638187200555641996) = true := by decide +kernel
theorem e6 : pickF 0 [1, 0, 2] = (stp 0, 2) := by decide +kernel
theorem e7 : size 3 = 3 := by decide
def Shuf3 (w : World) (e : Ending) (w' : World) : Prop := ∃ L : Nat, e = .returned (.tuple #[.agg #[.int .u64 (stp (stp 0))], .slice (some ⟨L, 0, none⟩) 3 3]) ∧ Has w' L (vals [2, 0, 1]) ∧ Below w.heap.size w w'
theorem shuf3 (w : World) : Calls Try.prog 20 #[.agg #[.int .u64 0], .int .i64 3] w (Shuf3 w) := by
  refine (shuffle_any 0 3 w).mono fun e w' h => ?_
  obtain ⟨L, he, _, h2, h3⟩ := h
  rw [e7, ex_e] at he h2
  exact ⟨L, he, h2, h3⟩
theorem pick3 (g : Nat) (w : World) (h : Has w g (vals [1, 0, 2])) : Calls Try.prog 23 #[.agg #[.int .u64 0], .slice (some ⟨g, 0, none⟩) 3 3] w fun e w' => e = .returned (.tuple #[.agg #[.int .u64 (stp 0)], .int .i64 2]) ∧ Below w.heap.size w w' := by
  have hh := pick_some g 0 3 3 [1, 0, 2] 0 w (Ws.of h) rfl (by omega)
  rwa [e6] at hh
set_option maxRecDepth 100000 in
set_option maxHeartbeats 3200000 in
theorem awake_any (w : World) :
    Calls Try.prog 16 #[] w fun e w' => e = .returned (.bool true) ∧ Below w.heap.size w w' := by
  have C1 := Lib.hid (fun w => next_any 0 w)
  have C2 := Lib.hid (fun w => next_any (stp 0) w)
  have C3 := Lib.hid (fun w => below_hi 0 10 w (by omega) (by omega))
  have C4 := Lib.hid (fun w => shuf3 w)
  have C5 := Lib.hid pick3
  have C7 := Lib.hid (fun w => seed_any ⟨#[97]⟩ w (by decide))
  have C6 := Lib.hid (fun g1 g2 w h1 h2 => ints_eq g1 g2 3 3 3 [2, 0, 1] w h1 h2 rfl (by omega))
  unfold Shuf3 at C4
  have h1 := e1
  have h2 := e2
  have h3 := e3
  have h4 := e4
  have h5 := e5
  have q1 : (⟨#[97]⟩ : ByteArray).data.toList = [97] := rfl
  rw [q1] at C7
  clear q1
  generalize fnv 14695981039346656037 [97] = z at *
  generalize mix 0 % 10 = q at *
  generalize mix 0 = m0 at *
  generalize mix (stp 0) = m1 at *
  generalize stp (stp 0) = s2 at *
  generalize stp 0 = s1 at *
  go_enter Try.func16, Try.ntmps16
  go_wp2_with fail
  refine (new_any _ _).mono ?_
  rintro e w0 ⟨rfl, k0⟩
  have D0 := Lib.hid k0
  clear k0
  go_wp2_with fail
  refine (C1.out _).mono ?_
  rintro e w1 ⟨rfl, k1⟩
  have D1 := Lib.hid (next0 D0.out k1)
  clear k1 D0
  generalize hg1 : w1.heap.size = g1
  have A : Has (w1.alloc (.cells #[.int .u64 s1] 24)) g1 #[.int .u64 s1] := by subst hg1; exact Has.new _ _ _
  have a0 := A.cell 0
  simp only [List.getElem?_toArray, List.getElem?_cons_zero] at a0
  go_wp2_with fail
  refine (C2.out _).mono ?_
  rintro e w2 ⟨rfl, k2⟩
  have A2 := A.step0 k2
  have D2 := Lib.hid (next1 D1.out k2)
  clear k2 D1 A hg1 a0
  go_wp2_with fail
  refine (new_any _ _).mono ?_
  rintro e w3 ⟨rfl, k3⟩
  have A3 := A2.step k3
  have D3 := Lib.hid (next1 D2.out k3)
  clear k3 D2 A2
  go_wp2_with fail
  refine (C3.out _).mono ?_
  rintro e w4 ⟨rfl, k4⟩
  have A4 := A3.step0 k4
  have D4 := Lib.hid (next0 D3.out k4)
  clear k4 D3 A3
  go_wp2_with fail
  refine (new_any _ _).mono ?_
  rintro e w5 ⟨rfl, k5⟩
  have A5 := A4.step k5
  have D5 := Lib.hid (next1 D4.out k5)
  clear k5 D4 A4
  go_wp2_with fail
  refine (C4.out _).mono ?_
  rintro e w6 ⟨L, rfl, L6, k6⟩
  have A6 := A5.step0 k6
  have D6 := Lib.hid (next0 D5.out k6)
  clear k6 D5 A5
  go_wp2_with fail
  refine (new_any _ _).mono ?_
  rintro e w7 ⟨rfl, k7⟩
  have A7 := A6.step k7
  have L7 := L6.step k7
  have D7 := Lib.hid (next1 D6.out k7)
  clear k7 D6 A6 L6
  go_wp2_with fail
  have P7 := Has.new w7 3 (vals [1, 0, 2])
  refine (C5.out _ _ P7).mono ?_
  rintro e w8 ⟨rfl, k8⟩
  have A8 := A7.step k8
  have L8 := Lib.hid (L7.step k8)
  have D8 := Lib.hid (next1 D7.out k8)
  clear k8 D7 A7 L7 P7
  have a0 := A8.cell 0
  have a1 := A8.lt
  simp only [List.getElem?_toArray, List.getElem?_cons_zero] at a0
  clear A8
  go_wp2_with fail
  refine (C6.out _ _ _ ((L8.out.alloc _).alloc _) (Has.new1 w8 _ 3 (vals [2, 0, 1]))).mono ?_
  rintro e w9 ⟨rfl, k9⟩
  have D9 := Lib.hid (next0 D8.out (next2 k9))
  clear k9 D8
  go_wp2_with fail
  refine (C7.out _).mono ?_
  rintro e w10 ⟨rfl, rfl⟩
  go_wp2_with fail
  go_ret
  exact ⟨rfl, D9.out⟩
end RandW
end Go.Proofs.Ytdnonfoidamkcaa
