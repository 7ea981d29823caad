/- Plain facts of layer 3: the generator's step and number, hashes, shuffles, weights. No conditions. -/
import Derived.Laws.Closers25b
import Derived.IntWalk
import Derived.PlainAid
import Derived.Laws.Bits64
namespace Go.Proofs.Ytdnonfoidamkcaa
open Go
namespace RandM
def stp (s : Int) : Int := IntKind.u64.wrap (s + 11400714819323198485)
def mx0 (a : Int) : Int := IntKind.u64.wrap (bits .xor .u64 a (a / 1073741824) * 13787848793156543929)
def mx1 (a : Int) : Int := IntKind.u64.wrap (bits .xor .u64 a (a / 134217728) * 10723151780598845931)
def mx2 (a : Int) : Int := bits .xor .u64 a (a / 2147483648)
def mix (s : Int) : Int := mx2 (mx1 (mx0 (stp s)))
def top : Int := 18446744073709551615
theorem wrap_in (n : Int) : 0 ≤ IntKind.u64.wrap n ∧ IntKind.u64.wrap n ≤ 18446744073709551615 := by
  rw [IntKind.wrap_u64]; omega
theorem stp_in (s : Int) : 0 ≤ stp s ∧ stp s ≤ 18446744073709551615 := wrap_in _
theorem mix_in (s : Int) : 0 ≤ mix s ∧ mix s ≤ 18446744073709551615 := by
  unfold mix mx2
  exact ⟨bits_lo_u64 _ _ _, bits_hi_u64 _ _ _⟩
theorem mod_in (s n : Int) (h : 1 ≤ n) : 0 ≤ mix s % n ∧ mix s % n < n := ⟨Int.emod_nonneg _ (by omega), Int.emod_lt_of_pos _ (by omega)⟩

/-- The hash of bytes, from h on. -/
def fnv : Int → List UInt8 → Int
  | h, [] => h
  | h, b :: l => fnv (IntKind.u64.wrap (bits .xor .u64 h b.toNat * 1099511628211)) l
theorem fnv_snoc (l : List UInt8) (h : Int) (b : UInt8) : fnv h (l ++ [b]) = IntKind.u64.wrap (bits .xor .u64 (fnv h l) b.toNat * 1099511628211) := by
  induction l generalizing h with
  | nil => rfl
  | cons c l ih => exact ih _
/-- What a weight counts as. -/
def wt (w : Int) : Int := if w < 0 then 0 else if 4294967296 < w then 4294967296 else w
theorem wrapB (b : UInt8) : IntKind.u64.wrap (b.toNat : Int) = b.toNat := IntWalk.u64_in _ ⟨by omega, by have := b.toNat_lt; omega⟩
theorem wt_lo {x : Int} (h : x < 0) : wt x = 0 := by unfold wt; rw [if_pos h]
theorem wt_mid {x : Int} (h : 0 ≤ x) (h' : x ≤ 4294967296) : wt x = x := by unfold wt; rw [if_neg (by omega), if_neg (by omega)]
theorem wt_hi {x : Int} (h : 4294967296 < x) : wt x = 4294967296 := by unfold wt; rw [if_neg (by omega), if_pos h]
theorem take_snoc (s : ByteArray) (k : Nat) (h : k < s.size) : s.data.toList.take (k + 1) = s.data.toList.take k ++ [s[k]] := by
  rw [List.take_succ_eq_append_getElem (by simpa using h)]; rfl
theorem ex_a : stp 0 = 11400714819323198485 := by decide +kernel
theorem ex_b : mix 0 = 16294208416658607535 := by decide +kernel
theorem ex_c : mix 11400714819323198485 = 7960286522194355700 := by decide +kernel
theorem ex_d : fnv 14695981039346656037 [97] = 12638187200555641996 := by decide +kernel

/-- The members at i and k exchanged. -/
def swp (l : List Int) (i k : Nat) : List Int := (l.set i (l.getD k 0)).set k (l.getD i 0)
theorem swp_length (l : List Int) (i k : Nat) : (swp l i k).length = l.length := by simp [swp]
/-- What the draws from index i down leave. -/
def shuf : Nat → Int → List Int → Int × List Int
  | 0, s, l => (s, l)
  | i + 1, s, l => shuf i (stp s) (swp l (i + 1) (mix s % ((i : Int) + 1 + 1)).toNat)
theorem shuf_length (i : Nat) : ∀ (s : Int) (l : List Int), (shuf i s l).2.length = l.length := by
  induction i with
  | zero => intro s l; rfl
  | succ i ih => intro s l; rw [shuf, ih, swp_length]
theorem shuf_in (i : Nat) : ∀ (s : Int) (l : List Int), 0 ≤ s → s ≤ 18446744073709551615 → 0 ≤ (shuf i s l).1 ∧ (shuf i s l).1 ≤ 18446744073709551615 := by
  induction i with
  | zero => intro s l h0 h1; exact ⟨h0, h1⟩
  | succ i ih => intro s l _ _; exact ih _ _ (stp_in s).1 (stp_in s).2
theorem swp_perm (l : List Int) (i k : Nat) (hi : i < l.length) (hk : k < l.length) : (swp l i k).Perm l := by
  have e : swp l i k = (l.set i l[k]).set k l[i] := by simp [swp, List.getD, hi, hk]
  rw [e]
  exact List.set_set_perm hi hk
theorem shuf_perm (i : Nat) : ∀ (s : Int) (l : List Int), i < l.length → (shuf i s l).2.Perm l := by
  induction i with
  | zero => intro s l _; exact List.Perm.refl _
  | succ i ih =>
    intro s l h
    have hm := mod_in s ((i : Int) + 1 + 1) (by omega)
    rw [shuf]
    refine (ih _ _ (by rw [swp_length]; omega)).trans (swp_perm l _ _ h (by omega))
/-- 0, 1, .. below m. -/
def upTo (m : Nat) : List Int := (List.range m).map Int.ofNat
theorem upTo_length (m : Nat) : (upTo m).length = m := by simp [upTo]
def shuffled (s : Int) (m : Nat) : Int × List Int := shuf (m - 1) s (upTo m)
def size (n : Int) : Nat := if n < 0 then 0 else if 4096 < n then 4096 else n.toNat
theorem ex_e : shuffled 0 3 = (stp (stp 0), [2, 0, 1]) := by decide +kernel
theorem ex_f : mix 0 % 10 = 5 := by decide +kernel
theorem ex_g : mix 0 % 3 = 2 ∨ mix 0 % 3 = 1 ∨ mix 0 % 3 = 0 := by decide +kernel

theorem wt_in (w : Int) : 0 ≤ wt w ∧ wt w ≤ 4294967296 := by unfold wt; split <;> (try split) <;> omega
def sumW : List Int → Int
  | [] => 0
  | w :: l => wt w + sumW l
theorem sumW_snoc (l : List Int) (w : Int) : sumW (l ++ [w]) = sumW l + wt w := by
  induction l with
  | nil => simp [sumW]
  | cons a l ih => simp [sumW, ih]; omega
theorem sumW_in (l : List Int) : 0 ≤ sumW l ∧ sumW l ≤ 4294967296 * l.length := by
  induction l with
  | nil => simp [sumW]
  | cons a l ih => have := wt_in a; simp [sumW]; omega
theorem sumW_take (l : List Int) (k : Nat) (x : Int) (h : l[k]? = some x) : sumW (l.take (k + 1)) = sumW (l.take k) + wt x := by
  rw [List.take_add_one, h]; exact sumW_snoc _ _
/-- The first index up to which the sum of the weights is greater than k, counted from i. -/
def at_ : List Int → Int → Nat → Int
  | [], _, _ => -1
  | w :: l, k, i => if k - wt w < 0 then i else at_ l (k - wt w) (i + 1)
end RandM
end Go.Proofs.Ytdnonfoidamkcaa
