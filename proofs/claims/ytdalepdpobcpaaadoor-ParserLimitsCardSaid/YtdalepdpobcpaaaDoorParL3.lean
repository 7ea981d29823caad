/- The walk of ParserNests. Condition: the reserved words lie as laid. -/
import Derived.Test.YtdalepdpobcpaaaDoorParAx
import Derived.Test.YtdalepdpobcpaaaDoorParLm
import Derived.Test.YtdalepdpobcpaaaDoorParLn
import Derived.IntWalk
namespace Go.Proofs.YtdalepdpobcpaaaDoor
open Go Go.RowKit
namespace ParL3
open Kit LexM TermM TermI TermU LexE LexF LexG LexP LexQ ParM ParA ParB ParC ParD ParK ParE ParF ParG ParH ParI ParW ParV ParX ParX2 ParX3 ParY ParN ParP ParQ ParAx ParLm
theorem bounds_u8 {n : Int} (h : (Lit.int .u8 n).wf = true) : 0 ≤ n ∧ n ≤ 255 := by
  simp [Lit.wf, IntKind.min, IntKind.max, IntKind.signed, IntKind.bits] at h
  omega
theorem rep_len (l : List UInt8) : ∀ k, (rep l k).length = k * l.length
  | 0 => by simp [rep]
  | k + 1 => by rw [rep, List.length_append, rep_len l k, Nat.succ_mul]
theorem bs_size (l : List UInt8) : (bs l).size = l.length := by simp [bs, ByteArray.size]
theorem bs_add (l : List UInt8) (s : ByteArray) : bs l ++ s = bs (l ++ s.data.toList) := by
  apply TermM.bytes_inj
  simp [bs]
theorem bs_toList (l : List UInt8) : (bs l).data.toList = l := by simp [bs]
set_option maxHeartbeats 800000 in
theorem repeat_any (s : ByteArray) (n : Nat) (hs : s.size ≤ 8) (hn : n ≤ 300) (w : World) :
    Calls Tryd.prog 25 #[.string s, .int .i64 n] w fun e w' => e = .returned (.string (bs (rep s.data.toList n))) ∧ w = w' := by
  have L := Lib.hid (fun k => rep_len s.data.toList k)
  have NX := Lib.hid (fun k => bs_add (rep s.data.toList k) s)
  go_enter Tryd.func25, Tryd.ntmps25
  go_wp2_with fail
  go_loop [5, 6] (fun v i => ∃ k : Nat, k ≤ n ∧ i = .int .i64 k ∧ v = .string (bs (rep s.data.toList k))) (fun _ i => n - (intOf i).toNat)
  case atStart => exact ⟨0, Nat.zero_le _, rfl, rfl⟩
  case round =>
    obtain ⟨k, hk, rfl, rfl⟩ := hrel
    by_cases hlt : k < n
    · have hz : (bs (rep s.data.toList k)).size ≤ 2400 := by
        rw [bs_size, L.out]
        have h1 : s.data.toList.length = s.size := by simp
        rw [h1]
        exact Nat.le_trans (Nat.mul_le_mul (by omega : k ≤ 300) hs) (by decide)
      have HN := Lib.hid (NX.out k)
      have HR : Hid (Value.string (bs (rep s.data.toList k ++ s.data.toList)) = .string (bs (rep s.data.toList (k + 1)))) := Lib.hid rfl
      generalize rep s.data.toList k = R at *
      generalize bs R = B at *
      go_wp2_with fail
      go_round
      case rel => exact ⟨k + 1, by omega, by go_num, by rw [HN.out]; exact HR.out⟩
      case measure => simp [intOf]; omega
    · obtain rfl : k = n := by omega
      go_wp2_with fail
      go_ret
      exact ⟨rfl, rfl⟩
theorem name_any (d : Nat) (w : World) (hd : d ≤ 100) :
    Calls Tryd.prog 26 #[.int .i64 d] w fun e w' => e = .returned (.string (if d = 1 then ⟨#[97]⟩ else ⟨#[102]⟩)) ∧ w = w' := by
  by_cases h1 : d = 1
  · subst h1
    go_enter Tryd.func26, Tryd.ntmps26
    go_wp2_with fail
    go_ret
    exact ⟨rfl, rfl⟩
  · have e0 : ((d : Int) == 1) = false := by rw [beq_eq_false_iff_ne]; omega
    have e1 : (d == 1) = false := by rw [beq_eq_false_iff_ne]; exact h1
    have h1' := Lib.hid h1
    clear h1
    go_enter Tryd.func26, Tryd.ntmps26
    go_wp2_with fail
    go_ret
    exact ⟨rfl, rfl⟩
/-- What the first text gives. -/
theorem outT (m : Nat) (h : m < 40) : (∃ t, m < 4 ∧ wholeF (termF 4) (txT (m + 1)) = .good t [] ∧ t.nm = if m + 1 = 1 then ⟨#[97]⟩ else ⟨#[102]⟩) ∨ (4 ≤ m ∧ wholeF (termF 4) (txT (m + 1)) = .bad 8 3) := by
  have hc := allT m h
  unfold chkT at hc
  split at hc
  · rename_i t r hO
    obtain ⟨_, _, _, _, rfl⟩ := ParLn.whole_good hO
    rw [Bool.and_eq_true, decide_eq_true_iff, beq_iff_eq] at hc
    refine Or.inl ⟨t, by omega, hO, TermM.bytes_inj ?_⟩
    rw [hc.2]
    split <;> rfl
  · rename_i a e hO
    simp only [Bool.and_eq_true, decide_eq_true_iff, beq_iff_eq] at hc
    obtain ⟨⟨h1, rfl⟩, rfl⟩ := hc
    exact Or.inr ⟨by omega, hO⟩
/-- What the second text gives. -/
theorem outA (n : Nat) (h : n < 40) : (∃ x, 1 ≤ n ∧ n ≤ 4 ∧ wholeF ruleF (txA n) = .good x [] ∧ x.1.nm = ⟨#[112]⟩ ∧ x.1.args.length = n) ∨ (n = 0 ∧ wholeF ruleF (txA n) = .bad 2 1) ∨ (4 < n ∧ wholeF ruleF (txA n) = .bad 10 5) := by
  have hc := allA n h
  unfold chkA at hc
  split at hc
  · rename_i t r hO
    obtain ⟨_, _, _, _, rfl⟩ := ParLn.whole_good hO
    simp only [Bool.and_eq_true, decide_eq_true_iff, beq_iff_eq] at hc
    obtain ⟨⟨⟨h1, h2⟩, h3⟩, h4⟩ := hc
    exact Or.inl ⟨t, h1, h2, hO, TermM.bytes_inj h3, h4⟩
  · rename_i a e hO
    split at hc
    · rename_i h0
      simp only [Bool.and_eq_true, beq_iff_eq] at hc
      obtain ⟨rfl, rfl⟩ := hc
      exact Or.inr (Or.inl ⟨h0, hO⟩)
    · simp only [Bool.and_eq_true, decide_eq_true_iff, beq_iff_eq] at hc
      obtain ⟨⟨h1, rfl⟩, rfl⟩ := hc
      exact Or.inr (Or.inr ⟨h1, hO⟩)
end ParL3
end Go.Proofs.YtdalepdpobcpaaaDoor
