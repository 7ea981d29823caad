/- The reference's readers and writers of numbers: whole, decimal, Dec. No conditions. -/
import Derived.Test.YtlamemhfnglfeaaDoorFracB1
namespace Go.Proofs.YtlamemhfnglfeaaDoor
open Go Go.RowKit
namespace FracB2
open Kit FracT FracM FracB1
open Go.Lib (decDigits decFrom decNat digitVal itoa)
def wholeL (l : List UInt8) : Int := if l.length < 1 ∨ 10 < l.length then -1 else match decFrom 0 l with
  | some n => (n : Int)
  | none => -1
theorem dec_lt : ∀ (l : List UInt8) (acc n : Nat), decFrom acc l = some n → n < (acc + 1) * 10 ^ l.length
  | [], acc, n, h => by
    obtain rfl := Option.some.inj h
    simp
  | b :: l, acc, n, h => by
    rw [decFrom] at h
    cases hb : digitVal b with
    | none => rw [hb] at h; cases h
    | some d =>
      rw [hb] at h
      have := dec_lt l _ n h
      have hd : d ≤ 9 := by
        unfold digitVal at hb
        split at hb
        · obtain rfl := Option.some.inj hb; omega
        · cases hb
      have h2 : (acc * 10 + d + 1) * 10 ^ l.length ≤ ((acc + 1) * 10) * 10 ^ l.length := Nat.mul_le_mul_right _ (by omega)
      rw [List.length_cons, Nat.pow_succ, Nat.mul_comm (10 ^ l.length) 10, ← Nat.mul_assoc]
      omega
theorem dec_small (s : List UInt8) (k m : Nat) (h : decFrom 0 (s.take k) = some m) (hk : k ≤ 10) : m < 10000000000 := by
  have h1 := dec_lt _ 0 m h
  have h2 : (s.take k).length ≤ 10 := by rw [List.length_take]; omega
  have h3 : 10 ^ (s.take k).length ≤ 10 ^ 10 := Nat.pow_le_pow_right (by decide) h2
  omega
theorem dec_none (s : List UInt8) (k : Nat) (b : UInt8) (hb : s[k]? = some b) (hd : ¬ (48 ≤ b.toNat ∧ b.toNat ≤ 57)) : decFrom 0 s = none := by
  cases h : decFrom 0 s with
  | none => rfl
  | some n =>
    obtain ⟨d, hd'⟩ := Lib.digit_of_decFrom _ 0 n h k b hb
    unfold digitVal at hd'
    rw [if_neg hd] at hd'
    cases hd'
theorem at_list (s : ByteArray) (k : Nat) (h : k < s.size) : s.data.toList[k]? = some s[k] := by
  rw [Array.getElem?_toList]
  exact Array.getElem?_eq_getElem h
theorem len_eq (s : ByteArray) : s.data.toList.length = s.size := Array.length_toList
set_option maxHeartbeats 1600000 in
theorem whole_any (s : ByteArray) (w : World) :
    Calls Tryd.prog 50 #[.string s] w fun e w' => e = .returned (.int .i64 (wholeL s.data.toList)) ∧ w = w' := by
  have V : Hid (wholeL s.data.toList = if s.size < 1 ∨ 10 < s.size then -1 else match decFrom 0 s.data.toList with
  | some n => (n : Int)
  | none => -1) := by unfold wholeL; rw [len_eq]; exact rfl
  generalize wholeL s.data.toList = R at *
  by_cases h0 : s.size < 1
  · have : R = -1 := by rw [V.out, if_pos (Or.inl h0)]
    subst this
    go_enter Tryd.func50, Tryd.ntmps50
    go_wp2_with fail
    go_ret
    exact ⟨rfl, rfl⟩
  by_cases h1 : 10 < s.size
  · have : R = -1 := by rw [V.out, if_pos (Or.inr h1)]
    subst this
    go_enter Tryd.func50, Tryd.ntmps50
    go_wp2_with fail
    go_ret
    exact ⟨rfl, rfl⟩
  have V2 : Hid (R = match decFrom 0 s.data.toList with
  | some n => (n : Int)
  | none => -1) := by have h := V.out; rw [if_neg (by omega)] at h; exact Lib.hid h
  clear V
  have DS := Lib.hid (fun k m h hk => dec_small s.data.toList k m h hk)
  have DN := Lib.hid (fun k b hb hd => dec_none s.data.toList k b hb hd)
  have DT := Lib.hid (fun k n b d h hb hd => Lib.decFrom_take s.data.toList k 0 n b d h hb hd)
  go_enter Tryd.func50, Tryd.ntmps50
  go_wp2_with fail
  go_loop [3, 15] (fun v i => ∃ k m : Nat, k ≤ s.size ∧ m < 10000000000 ∧ v = .int .i64 m ∧ i = .int .i64 k ∧ Hid (decFrom 0 (s.data.toList.take k) = some m)) (fun _ i => s.size - (intOf i).toNat)
  case atStart => exact ⟨0, 0, Nat.zero_le _, by omega, rfl, rfl, Lib.hid rfl⟩
  case round =>
    obtain ⟨k, m, hk, hm, rfl, rfl, hd⟩ := hrel
    by_cases hlt : k < s.size
    · have hb := Lib.hid (at_list s k hlt)
      by_cases hdig : 48 ≤ s[k].toNat ∧ s[k].toNat ≤ 57
      · have N : Hid (decFrom 0 (s.data.toList.take (k + 1)) = some (m * 10 + (s[k].toNat - 48))) := Lib.hid (DT.out k m s[k] _ hd.out hb.out (by unfold digitVal; rw [if_pos hdig]))
        have hm2 := DS.out (k + 1) _ N.out (by omega)
        obtain ⟨g1, g2⟩ := hdig
        have q1 : IntKind.u8.wrap ((s[k].toNat : Int) - 48) = ((s[k].toNat - 48 : Nat) : Int) := by
          rw [IntWalk.u8_in _ ⟨by omega, by omega⟩]; omega
        clear hb hd
        go_wp2_with fail
        go_round
        case rel => exact ⟨k + 1, m * 10 + (s[k].toNat - 48), by omega, hm2, by (try simp only [Value.int.injEq, true_and]); omega, by go_num, N⟩
        case measure => simp [intOf] <;> omega
      · have : R = -1 := by rw [V2.out, DN.out k _ hb.out hdig]
        subst this
        clear hb hd
        have hx : s[k].toNat < 48 ∨ (¬ s[k].toNat < 48 ∧ 57 < s[k].toNat) := by omega
        rcases hx with hx | ⟨hx, hy⟩
        all_goals
          go_wp2_with fail
          go_ret
          exact ⟨rfl, rfl⟩
    · obtain rfl : k = s.size := by omega
      have : R = (m : Int) := by
        have h := hd.out
        rw [List.take_of_length_le (by rw [len_eq]; exact Nat.le_refl _)] at h
        rw [V2.out, h]
      subst this
      go_wp2_with fail
      go_ret
      exact ⟨rfl, rfl⟩
theorem dec_step {v : Nat} (h : ¬ v < 10) (t : List UInt8) : decDigits (v / 10) ++ UInt8.ofNat (48 + v % 10) :: t = decDigits v ++ t := by
  rw [decDigits.eq_1 v, dif_neg h, List.append_assoc]
  rfl
theorem dec_last {v : Nat} (h : v < 10) (t : List UInt8) : UInt8.ofNat (48 + v) :: t = decDigits v ++ t := by
  rw [decDigits.eq_1 v, dif_pos h]
  rfl
theorem digit_at (x : Nat) (h : x < 10) : (⟨#[48, 49, 50, 51, 52, 53, 54, 55, 56, 57]⟩ : ByteArray).extract x (x + 1) = ⟨#[UInt8.ofNat (48 + x)]⟩ := by
  have key : ∀ x : Fin 10, (⟨#[48, 49, 50, 51, 52, 53, 54, 55, 56, 57]⟩ : ByteArray).extract x.val (x.val + 1) = ⟨#[UInt8.ofNat (48 + x.val)]⟩ := by decide +kernel
  exact key ⟨x, h⟩
theorem digit_cut (x : Nat) (hx : x < 10) (i j : Int) (hi : i = (x : Int)) (hj : j = (x : Int) + 1) (w : World) :
    (Instr.slice 9 (.string ⟨#[48, 49, 50, 51, 52, 53, 54, 55, 56, 57]⟩) (some (.int .u64 i)) (some (.int .u64 j)) none).run Tryd.prog w = .ok (.string ⟨#[UInt8.ofNat (48 + x)]⟩) w := by
  have hs : (⟨#[48, 49, 50, 51, 52, 53, 54, 55, 56, 57]⟩ : ByteArray).size = 10 := rfl
  have h := run_slice_string (P := Tryd.prog) w 9 ⟨#[48, 49, 50, 51, 52, 53, 54, 55, 56, 57]⟩ .u64 .u64 i j Tryd.underlying9 (by omega) (by omega) (by rw [hs]; omega)
  rw [h]
  have e1 : i.toNat = x := by omega
  have e2 : j.toNat = x + 1 := by omega
  rw [e1, e2, digit_at x hx]
theorem one_more (b : UInt8) (t : List UInt8) : (⟨#[b]⟩ : ByteArray) ++ ⟨t.toArray⟩ = ⟨(b :: t).toArray⟩ := Go.WideShapes.bytes_inj (by simp)
set_option maxRecDepth 100000 in
set_option maxHeartbeats 1600000 in
theorem decimal_any (u : Nat) (hu : u ≤ 18446744073709551615) (hl : (decDigits u).length ≤ 30) (w : World) :
    Calls Tryd.prog 58 #[.int .u64 u] w fun e w' => e = .returned (.string ⟨(decDigits u).toArray⟩) ∧ w = w' := by
  have D0 : Hid (∀ D, decDigits u = D → Hid (decDigits u ++ [] = D)) := Lib.hid (fun D h => Lib.hid ((List.append_nil _).trans h))
  generalize hD0 : decDigits u = D at hl ⊢
  replace D0 := D0.out D hD0
  clear hD0
  go_enter Tryd.func58, Tryd.ntmps58
  go_wp2_with fail
  go_loop [0, 4] (fun a b => ∃ (v : Nat) (T : ByteArray), v ≤ u ∧ T.size ≤ 30 ∧ a = .int .u64 v ∧ b = .string T ∧ Hid (decDigits v ++ T.data.toList = D)) (fun a _ => (intOf a).toNat)
  case atStart => exact ⟨u, ⟨#[]⟩, Nat.le_refl _, by decide, rfl, rfl, D0⟩
  case round =>
    obtain ⟨v, T, hv, hT, rfl, rfl, hD⟩ := hrel
    by_cases hlt : v < 10
    · have E := digit_cut v hlt (v : Int) ((v : Int) + 1) rfl rfl
      have L : Hid (UInt8.ofNat (48 + v) :: T.data.toList = D) := Lib.hid ((dec_last hlt _).trans hD.out)
      generalize UInt8.ofNat (48 + v) = b at E L
      have hb : (⟨#[b]⟩ : ByteArray).size = 1 := rfl
      have F : Hid ((⟨#[b]⟩ : ByteArray) ++ T = ⟨D.toArray⟩) := by rw [← L.out]; exact Lib.hid (Go.WideShapes.bytes_inj (by simp))
      generalize (⟨#[b]⟩ : ByteArray) = B at E F hb
      clear L hD
      go_wp2_with fail
      go_ret
      exact ⟨congrArg (fun l : ByteArray => Ending.returned (.string l)) F.out, rfl⟩
    · have E := digit_cut (v % 10) (by omega) ((v : Int) % 10) ((v : Int) % 10 + 1) (by omega) (by omega)
      have S : Hid (decDigits (v / 10) ++ (UInt8.ofNat (48 + v % 10) :: T.data.toList) = D) := Lib.hid ((dec_step hlt _).trans hD.out)
      generalize UInt8.ofNat (48 + v % 10) = b at E S
      have hb : (⟨#[b]⟩ : ByteArray).size = 1 := rfl
      have S2 : Hid (decDigits (v / 10) ++ ((⟨#[b]⟩ : ByteArray) ++ T).data.toList = D) := by
        have h := S.out
        have e : ((⟨#[b]⟩ : ByteArray) ++ T).data.toList = b :: T.data.toList := by simp
        rw [← e] at h
        exact Lib.hid h
      have hz : ((⟨#[b]⟩ : ByteArray) ++ T).size ≤ 30 := by
        have h := congrArg List.length S2.out
        rw [List.length_append, len_eq] at h
        omega
      generalize (⟨#[b]⟩ : ByteArray) = B at E S2 hb hz
      clear S hD
      go_wp2_with fail
      go_round
      case rel => exact ⟨v / 10, B ++ T, by omega, hz, by go_num, rfl, S2⟩
      case measure => simp [intOf] <;> omega
end FracB2
end Go.Proofs.YtlamemhfnglfeaaDoor
