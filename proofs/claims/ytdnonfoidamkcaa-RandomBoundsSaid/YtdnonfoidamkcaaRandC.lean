/- The contracts of Seed (code and reference), of the clamped weights, and of the comparison of two equal lists of integers. -/
import Derived.Test.YtdnonfoidamkcaaKit
import Derived.Test.YtdnonfoidamkcaaRandM
namespace Go.Proofs.Ytdnonfoidamkcaa
open Go Go.RowKit
namespace RandC
open Kit RandM
set_option maxHeartbeats 800000 in
theorem seed_any (s : ByteArray) (w : World) (hs : s.size ≤ maxLen) :
    Calls Try.prog 17 #[.string s] w fun e w' => e = .returned (.int .u64 (fnv 14695981039346656037 s.data.toList)) ∧ w = w' := by
  unfold maxLen at hs
  go_enter Try.func17, Try.ntmps17
  go_wp2
  go_loop [3, 7] (fun h i => ∃ k : Nat, k ≤ s.size ∧ i = .int .i64 k ∧ h = .int .u64 (fnv 14695981039346656037 (s.data.toList.take k))) (fun _ i => s.size - (intOf i).toNat)
  case atStart => exact ⟨0, Nat.zero_le _, rfl, rfl⟩
  case round =>
    obtain ⟨k, hk, rfl, rfl⟩ := hrel
    by_cases hlt : k < s.size
    · have HS : Hid (fnv 14695981039346656037 (s.data.toList.take (k + 1)) = IntKind.u64.wrap (bits .xor .u64 (fnv 14695981039346656037 (s.data.toList.take k)) s[k].toNat * 1099511628211)) := by
        rw [take_snoc s k hlt]; exact fnv_snoc _ _ _
      generalize fnv 14695981039346656037 (s.data.toList.take k) = hh at *
      go_wp2
      go_round
      case rel => exact ⟨k + 1, by omega, by go_num, by rw [HS.out, wrapB]⟩
      case measure => simp [intOf]; omega
    · go_wp2
      go_ret
      exact ⟨ret_int (by rw [List.take_of_length_le (by simp; omega)]), rfl⟩
set_option maxHeartbeats 800000 in
theorem rseed_any (s : ByteArray) (w : World) (hs : s.size ≤ maxLen) :
    Calls Try.prog 18 #[.string s] w fun e w' => e = .returned (.int .u64 (fnv 14695981039346656037 s.data.toList)) ∧ w = w' := by
  unfold maxLen at hs
  go_enter Try.func18, Try.ntmps18
  go_wp2
  go_loop [3, 4] (fun h i => ∃ k : Nat, k ≤ s.size ∧ i = .int .i64 k ∧ h = .int .u64 (fnv 14695981039346656037 (s.data.toList.take k))) (fun _ i => s.size - (intOf i).toNat)
  case atStart => exact ⟨0, Nat.zero_le _, rfl, rfl⟩
  case round =>
    obtain ⟨k, hk, rfl, rfl⟩ := hrel
    by_cases hlt : k < s.size
    · have HS : Hid (fnv 14695981039346656037 (s.data.toList.take (k + 1)) = IntKind.u64.wrap (bits .xor .u64 (fnv 14695981039346656037 (s.data.toList.take k)) s[k].toNat * 1099511628211)) := by
        rw [take_snoc s k hlt]; exact fnv_snoc _ _ _
      generalize fnv 14695981039346656037 (s.data.toList.take k) = hh at *
      go_wp2
      go_round
      case rel => exact ⟨k + 1, by omega, by go_num, by rw [HS.out, wrapB]⟩
      case measure => simp [intOf]; omega
    · go_wp2
      go_ret
      exact ⟨ret_int (by rw [List.take_of_length_le (by simp; omega)]), rfl⟩
theorem limited_any (x : Int) (w : World) :
    Calls Try.prog 26 #[.int .i64 x] w fun e w' => e = .returned (.int .i64 (wt x)) ∧ w = w' := by
  rcases (by omega : x < 0 ∨ (0 ≤ x ∧ x ≤ 4294967296) ∨ 4294967296 < x) with h | ⟨h, h'⟩ | h
  · have H := Lib.hid (wt_lo h)
    go_enter Try.func26, Try.ntmps26
    go_wp2
    go_ret
    exact ⟨ret_int H.out.symm, rfl⟩
  · have H := Lib.hid (wt_mid h h')
    go_enter Try.func26, Try.ntmps26
    go_wp2
    go_ret
    exact ⟨ret_int H.out.symm, rfl⟩
  · have H := Lib.hid (wt_hi h)
    have h' : 0 ≤ x := by omega
    go_enter Try.func26, Try.ntmps26
    go_wp2
    go_ret
    exact ⟨ret_int H.out.symm, rfl⟩
theorem weight_any (x : Int) (w : World) :
    Calls Try.prog 28 #[.int .i64 x] w fun e w' => e = .returned (.int .i64 (wt x)) ∧ w = w' := by
  rcases (by omega : x < 0 ∨ (0 ≤ x ∧ x ≤ 4294967296) ∨ 4294967296 < x) with h | ⟨h, h'⟩ | h
  · have H := Lib.hid (wt_lo h)
    go_enter Try.func28, Try.ntmps28
    go_wp2
    go_ret
    exact ⟨ret_int H.out.symm, rfl⟩
  · have H := Lib.hid (wt_mid h h')
    go_enter Try.func28, Try.ntmps28
    go_wp2
    go_ret
    exact ⟨ret_int H.out.symm, rfl⟩
  · have H := Lib.hid (wt_hi h)
    have h' : 0 ≤ x := by omega
    go_enter Try.func28, Try.ntmps28
    go_wp2
    go_ret
    exact ⟨ret_int H.out.symm, rfl⟩
end RandC
end Go.Proofs.Ytdnonfoidamkcaa
