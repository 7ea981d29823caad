/- The walks of RandomStreams, RandomPermutes and RandomBounds. -/
import Derived.Test.YtdnonfoidamkcaaRandL2
namespace Go.Proofs.Ytdnonfoidamkcaa
open Go Go.RowKit
namespace RandL3
open Kit RandM RandA RandB RandC RandD RandE RandF RandG RandH RandJ RandW RandL1 RandL2
/-- The state after k calls. -/
def adv (s : Int) (k : Int) : Int := IntKind.u64.wrap (s + k * 11400714819323198485)
theorem adv_zero (s : Int) (h0 : 0 ≤ s) (h1 : s ≤ 18446744073709551615) : adv s 0 = s := by
  unfold adv; rw [IntKind.wrap_u64]; omega
theorem adv_next (s k : Int) : stp (adv s k) = adv s (k + 1) := by
  unfold adv stp; rw [IntKind.wrap_u64, IntKind.wrap_u64, IntKind.wrap_u64]; omega
theorem adv_wrap (s k : Int) : IntKind.u64.wrap (s + IntKind.u64.wrap (k * 11400714819323198485)) = adv s k := by
  unfold adv; rw [IntKind.wrap_u64, IntKind.wrap_u64, IntKind.wrap_u64]; omega
set_option maxRecDepth 100000 in
set_option maxHeartbeats 3200000 in
theorem streams (s c o : Int) (w : World) (h0 : 0 ≤ s) (h1 : s ≤ 18446744073709551615) (g0 : 0 ≤ c) (g1 : c ≤ 255) :
    Calls Try.prog 10 #[.int .u64 s, .int .u8 c, .int .u64 o] w fun e w' => e = .returned (.bool true) ∧ Below w.heap.size w w' := by
  obtain ⟨c, rfl⟩ := Int.eq_ofNat_of_zero_le g0
  have C5 := Lib.hid awake_any
  have N1 := Lib.hid (fun w => next_any (adv s c) w)
  have N2 := Lib.hid (fun w => next_any o w)
  have HE := Lib.hid (adv_wrap s c)
  have H0 := Lib.hid (adv_zero s h0 h1)
  generalize hA : (fun k : Nat => adv s k) = AD
  have HN : Hid (∀ k : Nat, stp (AD k) = AD (k + 1)) := by
    subst hA; exact Lib.hid (fun k => by simpa using adv_next s k)
  have HC : Hid (adv s c = AD c) := by subst hA; exact rfl
  have HZ : Hid (s = AD 0) := by subst hA; exact H0.out.symm
  rw [HC.out] at N1 HE
  clear hA HC H0
  go_enter Try.func10, Try.ntmps10
  go_wp2_with fail
  refine (new_any _ _).mono ?_
  rintro e w1 ⟨rfl, k1⟩
  generalize hG : w1.heap.size = G
  have A0 : Has (w1.alloc (.cells #[.int .u64 s] 24)) G #[.int .u64 s] := by subst hG; exact Has.new _ _ _
  have A1 : Hid (Has (w1.alloc (.cells #[.int .u64 s] 24)) G #[.int .u64 (AD 0)]) := by rw [← HZ.out]; exact A0
  have D := Lib.hid (next0 k1 (below_alloc w1 (.cells #[.int .u64 s] 24)))
  have hGl : w.heap.size ≤ G := by subst hG; exact k1.size
  clear k1 A0 HZ
  go_wp2_with fail
  clear hG
  go_loopw [8] (fun i wL => ∃ k : Nat, k ≤ c ∧ i = .int .i64 k ∧ Hid (Has wL G #[.int .u64 (AD k)]) ∧ Hid (Below w.heap.size w wL)) (fun i _ => c - (intOf i).toNat)
  case atStart => exact ⟨0, Nat.zero_le _, rfl, A1, D⟩
  case round =>
    obtain ⟨k, hk, rfl, A1, D⟩ := hrel
    by_cases hlt : k < c
    · have N3 := Lib.hid (fun w => next_any (AD k) w)
      rw [HN.out] at N3
      have a1 := A1.out.cell 0
      simp only [List.getElem?_toArray, List.getElem?_cons_zero] at a1
      generalize AD k = u at *
      go_wp2_with fail
      refine (N3.out _).mono ?_
      rintro e w2 ⟨rfl, k2⟩
      have A2 := A1.out.step0 k2
      have D2 := Lib.hid (next0 D.out k2)
      have b1 := A2.cell 0
      have b2 := A2.free 0
      have b3 := A2.lt
      simp only [List.getElem?_toArray, List.getElem?_cons_zero] at b1
      have A3 := Lib.hid (A2.set 0 (.int .u64 (AD (k + 1))))
      clear A2 k2 a1
      go_wp2_with fail
      go_roundw
      case rel => exact ⟨k + 1, by omega, by go_num, A3, Lib.hid (D2.out.setCell (by simp <;> omega) _)⟩
      case measure => simp [intOf] <;> omega
    · obtain rfl : k = c := by omega
      clear HN
      have cA1 := A1.out.cell 0
      have lA1 := A1.out.lt
      simp only [List.getElem?_toArray, List.getElem?_cons_zero] at cA1
      go_wp2_with fail
      rw [HE.out]
      clear cA1 lA1
      have cA1 := A1.out.cell 0
      have lA1 := A1.out.lt
      simp only [List.getElem?_toArray, List.getElem?_cons_zero] at cA1
      refine (new_any _ _).mono ?_
      rintro e w3 ⟨rfl, k3⟩
      clear cA1 lA1
      have A1 := Lib.hid (by first | exact Has.step0 A1.out k3 | exact Has.step A1.out k3 | exact Has.below ((A1.out.alloc _).alloc _) k3 (by have := A1.out.lt; simp; omega))
      have D := Lib.hid (by first | exact next0 D.out k3 | exact next1 D.out k3 | exact next0 D.out (next2 k3))
      clear k3
      have cA1 := A1.out.cell 0
      have lA1 := A1.out.lt
      simp only [List.getElem?_toArray, List.getElem?_cons_zero] at cA1
      go_wp2_with fail
      refine (N1.out _).mono ?_
      rintro e w4 ⟨rfl, k4⟩
      clear cA1 lA1
      have A1 := Lib.hid (by first | exact Has.step0 A1.out k4 | exact Has.step A1.out k4 | exact Has.below ((A1.out.alloc _).alloc _) k4 (by have := A1.out.lt; simp; omega))
      have A2 := Lib.hid (Has.made k4)
      have D := Lib.hid (by first | exact next0 D.out k4 | exact next1 D.out k4 | exact next0 D.out (next2 k4))
      clear k4
      have cA1 := A1.out.cell 0
      have lA1 := A1.out.lt
      have cA2 := A2.out.cell 0
      have lA2 := A2.out.lt
      simp only [List.getElem?_toArray, List.getElem?_cons_zero] at cA1 cA2
      go_wp2_with fail
      refine (new_any _ _).mono ?_
      rintro e w5 ⟨rfl, k5⟩
      clear cA1 lA1 cA2 lA2
      have A1 := Lib.hid (by first | exact Has.step0 A1.out k5 | exact Has.step A1.out k5 | exact Has.below ((A1.out.alloc _).alloc _) k5 (by have := A1.out.lt; simp; omega))
      have A2 := Lib.hid (by first | exact Has.step0 A2.out k5 | exact Has.step A2.out k5 | exact Has.below ((A2.out.alloc _).alloc _) k5 (by have := A2.out.lt; simp; omega))
      have A3 := Lib.hid (Has.made k5)
      have D := Lib.hid (by first | exact next0 D.out k5 | exact next1 D.out k5 | exact next0 D.out (next2 k5))
      clear k5
      have cA1 := A1.out.cell 0
      have lA1 := A1.out.lt
      have cA2 := A2.out.cell 0
      have lA2 := A2.out.lt
      have cA3 := A3.out.cell 0
      have lA3 := A3.out.lt
      simp only [List.getElem?_toArray, List.getElem?_cons_zero] at cA1 cA2 cA3
      go_wp2_with fail
      refine (N2.out _).mono ?_
      rintro e w6 ⟨rfl, k6⟩
      clear cA1 lA1 cA2 lA2 cA3 lA3
      have A1 := Lib.hid (by first | exact Has.step0 A1.out k6 | exact Has.step A1.out k6 | exact Has.below ((A1.out.alloc _).alloc _) k6 (by have := A1.out.lt; simp; omega))
      have A2 := Lib.hid (by first | exact Has.step0 A2.out k6 | exact Has.step A2.out k6 | exact Has.below ((A2.out.alloc _).alloc _) k6 (by have := A2.out.lt; simp; omega))
      have A3 := Lib.hid (by first | exact Has.step0 A3.out k6 | exact Has.step A3.out k6 | exact Has.below ((A3.out.alloc _).alloc _) k6 (by have := A3.out.lt; simp; omega))
      have D := Lib.hid (by first | exact next0 D.out k6 | exact next1 D.out k6 | exact next0 D.out (next2 k6))
      clear k6
      have cA1 := A1.out.cell 0
      have lA1 := A1.out.lt
      have cA2 := A2.out.cell 0
      have lA2 := A2.out.lt
      have cA3 := A3.out.cell 0
      have lA3 := A3.out.lt
      simp only [List.getElem?_toArray, List.getElem?_cons_zero] at cA1 cA2 cA3
      go_wp2_with fail
      refine (N1.out _).mono ?_
      rintro e w7 ⟨rfl, k7⟩
      clear cA1 lA1 cA2 lA2 cA3 lA3
      have A1 := Lib.hid (by first | exact Has.step0 A1.out k7 | exact Has.step A1.out k7 | exact Has.below ((A1.out.alloc _).alloc _) k7 (by have := A1.out.lt; simp; omega))
      have A2 := Lib.hid (by first | exact Has.step0 A2.out k7 | exact Has.step A2.out k7 | exact Has.below ((A2.out.alloc _).alloc _) k7 (by have := A2.out.lt; simp; omega))
      have A3 := Lib.hid (by first | exact Has.step0 A3.out k7 | exact Has.step A3.out k7 | exact Has.below ((A3.out.alloc _).alloc _) k7 (by have := A3.out.lt; simp; omega))
      have D := Lib.hid (by first | exact next0 D.out k7 | exact next1 D.out k7 | exact next0 D.out (next2 k7))
      clear k7
      have cA1 := A1.out.cell 0
      have lA1 := A1.out.lt
      have cA2 := A2.out.cell 0
      have lA2 := A2.out.lt
      have cA3 := A3.out.cell 0
      have lA3 := A3.out.lt
      simp only [List.getElem?_toArray, List.getElem?_cons_zero] at cA1 cA2 cA3
      go_wp2_with fail
      refine (C5.out _).mono ?_
      rintro e w8 ⟨rfl, k8⟩
      clear cA1 lA1 cA2 lA2 cA3 lA3
      have A1 := Lib.hid (by first | exact Has.step0 A1.out k8 | exact Has.step A1.out k8 | exact Has.below ((A1.out.alloc _).alloc _) k8 (by have := A1.out.lt; simp; omega))
      have A2 := Lib.hid (by first | exact Has.step0 A2.out k8 | exact Has.step A2.out k8 | exact Has.below ((A2.out.alloc _).alloc _) k8 (by have := A2.out.lt; simp; omega))
      have A3 := Lib.hid (by first | exact Has.step0 A3.out k8 | exact Has.step A3.out k8 | exact Has.below ((A3.out.alloc _).alloc _) k8 (by have := A3.out.lt; simp; omega))
      have A4 := Lib.hid (Has.made k8)
      have D := Lib.hid (by first | exact next0 D.out k8 | exact next1 D.out k8 | exact next0 D.out (next2 k8))
      clear k8
      go_wp2_with fail
      go_ret
      exact ⟨rfl, D.out⟩
end RandL3
end Go.Proofs.Ytdnonfoidamkcaa
