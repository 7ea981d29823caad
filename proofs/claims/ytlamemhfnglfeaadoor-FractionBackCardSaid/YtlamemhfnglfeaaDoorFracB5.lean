/- The reference's Dec and Text. No conditions. -/
import Derived.Test.YtlamemhfnglfeaaDoorFracB2
import Derived.Test.YtlamemhfnglfeaaDoorFracA
namespace Go.Proofs.YtlamemhfnglfeaaDoor
open Go Go.RowKit
namespace FracB5
open Kit FracA FracT FracM FracB1 FracB2
open Go.Lib (decDigits itoa)
theorem dec_of (k : Nat) (hk : k ≤ 1073741824) (w : World) : Calls Tryd.prog 58 #[.int .u64 k] w fun e w' => e = .returned (.string ⟨(decDigits k).toArray⟩) ∧ w = w' :=
  decimal_any k (by omega) (by have := digits_len k hk; omega) w
set_option maxHeartbeats 1600000 in
theorem dec_any (n : Int) (w : World) (h0 : -1073741824 ≤ n) (h1 : n ≤ 1073741824) :
    Calls Tryd.prog 52 #[.int .i64 n] w fun e w' => e = .returned (.string ⟨(itoa n).toArray⟩) ∧ w = w' := by
  have C1 := Lib.hid (fun w => size_any n w (by omega) (by omega))
  have C2 := Lib.hid (fun w => dec_of n.natAbs (by omega) w)
  have hl := digits_len n.natAbs (by omega)
  by_cases h : n < 0
  · have V : Hid ((⟨#[45]⟩ : ByteArray) ++ ⟨(decDigits n.natAbs).toArray⟩ = ⟨(itoa n).toArray⟩) := by
      unfold itoa
      rw [if_pos h]
      exact Lib.hid (Go.WideShapes.bytes_inj (by simp))
    have hz : (⟨(decDigits n.natAbs).toArray⟩ : ByteArray).size ≤ 10 := by show Array.size _ ≤ 10; simpa using hl
    generalize (⟨(itoa n).toArray⟩ : ByteArray) = R at *
    generalize (⟨(decDigits n.natAbs).toArray⟩ : ByteArray) = T at *
    generalize n.natAbs = m at *
    clear hl
    go_enter Tryd.func52, Tryd.ntmps52
    go_wp2_with (first | (go_at_call 43; refine (C1.out _).mono ?_; rintro e w' ⟨rfl, rfl⟩) | (go_at_call 58; refine (C2.out _).mono ?_; rintro e w' ⟨rfl, rfl⟩))
    go_ret
    exact ⟨congrArg (fun l => Ending.returned (.string l)) V.out, rfl⟩
  · have V : Hid ((⟨(decDigits n.natAbs).toArray⟩ : ByteArray) = ⟨(itoa n).toArray⟩) := by
      unfold itoa
      rw [if_neg h, show n.toNat = n.natAbs from by omega]
      exact rfl
    generalize (⟨(itoa n).toArray⟩ : ByteArray) = R at *
    generalize (⟨(decDigits n.natAbs).toArray⟩ : ByteArray) = T at *
    generalize n.natAbs = m at *
    clear hl
    go_enter Tryd.func52, Tryd.ntmps52
    go_wp2_with (first | (go_at_call 43; refine (C1.out _).mono ?_; rintro e w' ⟨rfl, rfl⟩) | (go_at_call 58; refine (C2.out _).mono ?_; rintro e w' ⟨rfl, rfl⟩))
    go_ret
    exact ⟨congrArg (fun l => Ending.returned (.string l)) V.out, rfl⟩
set_option maxHeartbeats 800000 in
theorem rtext_any (n d : Int) (w : World) (h0 : -1073741824 ≤ n) (h1 : n ≤ 1073741824) (h2 : -1073741824 ≤ d) (h3 : d ≤ 1073741824) :
    Calls Tryd.prog 39 #[.agg #[.int .i64 n, .int .i64 d]] w fun e w' => e = .returned (.string ⟨(text n d).toArray⟩) ∧ Below w.heap.size w w' := by
  have C1 := Lib.hid (fun w => dec_any n w h0 h1)
  have C2 := Lib.hid (fun w => dec_any d w h2 h3)
  have z1 : (⟨(itoa n).toArray⟩ : ByteArray).size ≤ 11 := by show Array.size _ ≤ 11; simpa using itoa_len n h0 h1
  have z2 : (⟨(itoa d).toArray⟩ : ByteArray).size ≤ 11 := by show Array.size _ ≤ 11; simpa using itoa_len d h2 h3
  by_cases hd : d = 1
  · subst hd
    have V : Hid ((⟨(itoa n).toArray⟩ : ByteArray) = ⟨(text n 1).toArray⟩) := by unfold text; rw [if_pos rfl]; exact rfl
    generalize (⟨(text n 1).toArray⟩ : ByteArray) = R at *
    generalize (⟨(itoa n).toArray⟩ : ByteArray) = T at *
    clear C2 z2
    have B0 := below_alloc w (.cells #[.int .i64 n, .int .i64 1] 23)
    go_enter Tryd.func39, Tryd.ntmps39
    go_wp2_with fail
    refine (C1.out _).mono ?_
    rintro e w1 ⟨rfl, rfl⟩
    go_wp2_with fail
    go_ret
    exact ⟨congrArg (fun l => Ending.returned (.string l)) V.out, B0⟩
  · have V : Hid ((⟨(itoa n).toArray⟩ : ByteArray) ++ ⟨#[47]⟩ ++ ⟨(itoa d).toArray⟩ = ⟨(text n d).toArray⟩) := by unfold text; rw [if_neg hd]; exact Lib.hid (Go.WideShapes.bytes_inj (by simp))
    generalize (⟨(text n d).toArray⟩ : ByteArray) = R at *
    generalize (⟨(itoa n).toArray⟩ : ByteArray) = T at *
    generalize (⟨(itoa d).toArray⟩ : ByteArray) = U at *
    have B0 := below_alloc w (.cells #[.int .i64 n, .int .i64 d] 23)
    have hd2 : (d == 1) = false := by simpa using hd
    go_enter Tryd.func39, Tryd.ntmps39
    go_wp2_with fail
    obtain ⟨y1, y2, -, -, -⟩ := (Has.new w 23 #[.int .i64 n, .int .i64 d]).two
    generalize w.alloc (.cells #[.int .i64 n, .int .i64 d] 23) = wz at *
    have BZ := Lib.hid B0
    have D1 := Lib.hid (fun k => quiet_eq (C1.out (wz.drewN k)))
    have D2 := Lib.hid (fun k => quiet_eq (C2.out (wz.drewN k)))
    clear B0 C1 C2
    go_quiet ((go_at_call 52; first | with_reducible exact D1.out _ | with_reducible exact D2.out _))
    go_wp2_with fail
    go_ret
    exact ⟨congrArg (fun l => Ending.returned (.string l)) V.out, below_drewN BZ.out _⟩
end FracB5
end Go.Proofs.YtlamemhfnglfeaaDoor
