/- The texts of the laws on limits, and what the plain parser answers for each of them: decided one by one. No conditions. -/
import Derived.Test.YtdalepdpobcpaaaDoorParN
import Derived.Test.YtdalepdpobcpaaaDoorLexQ
namespace Go.Proofs.YtdalepdpobcpaaaDoor
open Go Go.RowKit
namespace ParLm
open Kit LexM TermM LexE LexF LexG LexP LexQ ParM ParV ParN
def rep (s : List UInt8) : Nat → List UInt8
  | 0 => []
  | n + 1 => rep s n ++ s
def txT (d : Nat) : List UInt8 := rep [102, 40] (d - 1) ++ [97] ++ rep [41] (d - 1)
def txA (n : Nat) : List UInt8 := [112, 40] ++ rep [97, 44] (n - 1) ++ rep [97] (min n 1) ++ [41, 46]
def txB (n : Nat) : List UInt8 := (if n = 0 then [112] else [112, 32, 105, 102, 32] ++ rep [113, 32, 97, 110, 100, 32] (n - 1) ++ [113]) ++ [46]
def txR (n : Nat) : List UInt8 := rep [112, 46] n
def chkT (d : Nat) : Bool := match wholeF (termF 4) (txT d) with
  | .good t _ => decide (d ≤ 4) && (t.nm.data.toList == if d = 1 then [97] else [102])
  | .bad a e => decide (4 < d) && (a == 8) && (e == 3)
def chkA (n : Nat) : Bool := match wholeF ruleF (txA n) with
  | .good x _ => decide (1 ≤ n) && decide (n ≤ 4) && (x.1.nm.data.toList == [112]) && (x.1.args.length == n)
  | .bad a e => if n = 0 then (a == 2) && (e == 1) else decide (4 < n) && (a == 10) && (e == 5)
def chkB (n : Nat) : Bool := match wholeF ruleF (txB n) with
  | .good x _ => decide (n ≤ 8) && (x.2.length == n)
  | .bad a e => decide (8 < n) && (a == 53) && (e == 2)
theorem allT : ∀ d, d < 40 → chkT (d + 1) = true := by decide +kernel
theorem allA : ∀ n, n < 40 → chkA n = true := by decide +kernel
theorem allB : ∀ n, n < 40 → chkB n = true := by decide +kernel
/-! ### Descriptions: the same by induction -/
def pts : Nat → List UInt8
  | 0 => []
  | n + 1 => 112 :: 46 :: pts n
theorem pts_snoc : ∀ n, pts n ++ [112, 46] = pts (n + 1)
  | 0 => rfl
  | n + 1 => by show 112 :: 46 :: (pts n ++ [112, 46]) = _; rw [pts_snoc n]; rfl
theorem rep_pts : ∀ n, txR n = pts n
  | 0 => rfl
  | n + 1 => by show txR n ++ [112, 46] = _; rw [rep_pts n, pts_snoc]
theorem pts_len : ∀ n, (pts n).length = 2 * n
  | 0 => rfl
  | n + 1 => by simp [pts, pts_len n]; omega
def tks : Nat → Nat → List Tok
  | 0, k => [(0, [], k)]
  | n + 1, k => (1, [112], k) :: (4, [46], k + 1) :: tks n (k + 2)
theorem lex_pts : ∀ n f k, 2 * n ≤ f → lexF f k (pts n) = (tks n k, 0, 0)
  | 0, f, k, _ => by cases f <;> rfl
  | n + 1, f, k, h => by
    obtain ⟨g, rfl⟩ : ∃ g, f = g + 1 + 1 := ⟨f - 2, by omega⟩
    have h1 : lexF (g + 1) (k + 1) (46 :: pts n) = ((4, [46], k + 1) :: tks n (k + 2), 0, 0) := step_ok g (k + 1) (46 :: pts n) (by simp) (4, 1, 0) rfl rfl _ (lex_pts n g (k + 2) (by omega))
    exact step_ok (g + 1) k (112 :: 46 :: pts n) (by simp) (1, 1, 0) (by kernel_rfl) rfl _ h1
def pr : Rl := (.mk (bs [112]) [], [])
theorem rule_p (k1 k2 : Int) (rest : List GTok) : ruleF ((1, bs [112], k1) :: (4, bs [46], k2) :: rest) = .good pr rest := by kernel_rfl
theorem desc_ps : ∀ n m (l : List Rl) (k : Nat), l.length + m = 129 → l.length ≤ 128 → descF m l ((tks n k).map gt) = if l.length + n ≤ 128 then .good (l ++ List.replicate n pr) [(0, ⟨#[]⟩, ((k + 2 * n : Nat) : Int))] else .bad ((k + 2 * (128 - l.length) : Nat) : Int) 2
  | 0, m, l, k, h, h1 => by
    obtain ⟨g, rfl⟩ : ∃ g, m = g + 1 := ⟨m - 1, by omega⟩
    rw [if_pos (by omega), descF, if_pos (show (hd ((tks 0 k).map gt)).1 = 0 from rfl), List.replicate_zero, List.append_nil]
    rfl
  | n + 1, m, l, k, h, h1 => by
    obtain ⟨g, rfl⟩ : ∃ g, m = g + 1 := ⟨m - 1, by omega⟩
    rw [descF, if_neg (show ¬ (hd ((tks (n + 1) k).map gt)).1 = 0 from by show ¬ (1 : Int) = 0; decide)]
    by_cases hl : l.length = 128
    · rw [if_pos (by rw [hl]; rfl), if_neg (by omega)]
      rw [hl]
      rfl
    · rw [if_neg (by simp [hl])]
      show (ruleF ((1, bs [112], (k : Int)) :: (4, bs [46], ((k + 1 : Nat) : Int)) :: (tks n (k + 2)).map gt)).then _ = _
      rw [rule_p]
      show descF g (l ++ [pr]) ((tks n (k + 2)).map gt) = _
      rw [desc_ps n g (l ++ [pr]) (k + 2) (by simp; omega) (by simp; omega)]
      simp only [List.length_append, List.length_cons, List.length_nil, Nat.zero_add]
      by_cases hn : l.length + 1 + n ≤ 128
      · rw [if_pos hn, if_pos (by omega), List.append_assoc, List.replicate_succ, show k + 2 + 2 * n = k + 2 * (n + 1) by omega]
        rfl
      · rw [if_neg hn, if_neg (by omega), show k + 2 + 2 * (128 - (l.length + 1)) = k + 2 * (128 - l.length) by omega]
theorem allR (n : Nat) (h : n < 256) : wholeF (descF 129 []) (txR n) = if n ≤ 128 then .good (List.replicate n pr) [] else .bad 256 2 := by
  have hl : lexR (txR n) = (tks n 0, 0, 0) := by
    rw [rep_pts]
    unfold lexR
    rw [pts_len, if_neg (by omega), lex_pts n _ 0 (Nat.le_refl _)]
  unfold wholeF
  rw [hl, if_pos rfl, desc_ps n 129 [] 0 rfl (by decide)]
  by_cases hn : n ≤ 128
  · rw [if_pos (by simpa using hn), if_pos hn]
    rfl
  · rw [if_neg (by simpa using hn), if_neg hn]
    rfl
end ParLm
end Go.Proofs.YtdalepdpobcpaaaDoor
