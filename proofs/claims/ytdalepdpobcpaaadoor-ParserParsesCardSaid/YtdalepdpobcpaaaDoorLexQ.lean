/- Plain facts of layer 4 (for a seat without layer 4's laws): which tokens a text has, and the tokens of two texts on separate lines. No conditions. -/
import Derived.Test.YtdalepdpobcpaaaDoorLexP
namespace Go.Proofs.YtdalepdpobcpaaaDoor
open Go Go.RowKit
namespace LexQ
open LexM LexE LexF LexG LexP
def stops (p : Int → Bool) : List UInt8 → Bool
  | [] => true
  | b :: _ => !p b.toNat
theorem tw_stop (p : Int → Bool) (x rest : List UInt8) (hs : stops p rest = true) : (x ++ rest).takeWhile (fun b => p b.toNat) = x.takeWhile (fun b => p b.toNat) := by
  induction x with
  | nil =>
    cases rest with
    | nil => rfl
    | cons b r =>
      have : p b.toNat = false := by simpa [stops] using hs
      simp [this]
  | cons a x ih =>
    rw [List.cons_append, List.takeWhile_cons, List.takeWhile_cons]
    split
    · rw [ih]
    · rfl
theorem span_stop (p : Int → Bool) (x rest : List UInt8) (hs : stops p rest = true) : spanL p (x ++ rest) = spanL p x := by
  unfold spanL; rw [tw_stop p x rest hs]
theorem take_span (p : Int → Bool) (l : List UInt8) : l.take (spanL p l) = l.takeWhile (fun b => p b.toNat) := by
  unfold spanL
  exact (List.prefix_iff_eq_take.1 (List.takeWhile_prefix _)).symm
theorem tw_self (p : Int → Bool) (l : List UInt8) : (l.takeWhile (fun b => p b.toNat)).takeWhile (fun b => p b.toNat) = l.takeWhile (fun b => p b.toNat) := by
  induction l with
  | nil => rfl
  | cons b l ih =>
    rw [List.takeWhile_cons]
    split
    · rename_i h
      rw [List.takeWhile_cons, if_pos h, ih]
    · rfl
theorem span_self (p : Int → Bool) (l : List UInt8) : spanL p (l.take (spanL p l)) = spanL p l := by
  rw [take_span]
  unfold spanL
  rw [tw_self]
/-- A kind and a text that are read back before whatever ends a run. -/
def Good (k : Int) (x : List UInt8) : Prop := k ≠ 0 ∧ x ≠ [] ∧ ∀ rest, stops ruB rest = true → pieceF (x ++ rest) = (k, x.length, 0)
theorem piece_cons (b : UInt8) (l : List UInt8) : pieceF (b :: l) = if blB b.toNat = true then (0, 1, 0) else if ((b.toNat : Int) == 35) = true then (0, spanL ncB (b :: l), 0) else if syB b.toNat = true then (4, 1, 0)
    else if ruB b.toNat = true then (kindL ((b :: l).take (spanL ruB (b :: l))), spanL ruB (b :: l), kErr (kindL ((b :: l).take (spanL ruB (b :: l))))) else (0, 0, 1) := rfl
theorem piece_good (l : List UInt8) (hne : l ≠ []) (h0 : (pieceF l).2.2 = 0) (hk : (pieceF l).1 ≠ 0) : Good (pieceF l).1 (l.take (pieceF l).2.1) := by
  cases l with
  | nil => exact absurd rfl hne
  | cons b t =>
    rw [piece_cons] at h0 hk ⊢
    by_cases c1 : blB b.toNat = true
    · rw [if_pos c1] at hk; exact absurd rfl hk
    rw [if_neg c1] at h0 hk ⊢
    by_cases c2 : ((b.toNat : Int) == 35) = true
    · rw [if_pos c2] at hk; exact absurd rfl hk
    rw [if_neg c2] at h0 hk ⊢
    by_cases c3 : syB b.toNat = true
    · rw [if_pos c3]
      refine ⟨by decide, by simp, fun rest _ => ?_⟩
      show pieceF (b :: rest) = (4, 1, 0)
      rw [piece_cons, if_neg c1, if_neg c2, if_pos c3]
    rw [if_neg c3] at h0 hk ⊢
    by_cases c4 : ruB b.toNat = true
    · rw [if_pos c4] at h0 hk ⊢
      dsimp only at h0 hk ⊢
      have hpos := span_pos ruB b t c4
      have hle := spanL_le ruB (b :: t)
      have hself := span_self ruB (b :: t)
      generalize hn : spanL ruB (b :: t) = n at *
      have hx : (b :: t).take n = b :: t.take (n - 1) := by
        obtain ⟨m, rfl⟩ : ∃ m, n = m + 1 := ⟨n - 1, by omega⟩
        simp
      have hlen : ((b :: t).take n).length = n := by rw [List.length_take]; omega
      refine ⟨hk, by rw [hx]; simp, fun rest hs => ?_⟩
      have hsp : spanL ruB ((b :: t).take n ++ rest) = n := by rw [span_stop ruB _ rest hs, hself]
      have htk : ((b :: t).take n ++ rest).take n = (b :: t).take n := by
        rw [List.take_append_of_le_length (by omega), List.take_of_length_le (by omega)]
      rw [hlen]
      rw [hx] at hsp htk ⊢
      rw [List.cons_append] at hsp htk ⊢
      rw [piece_cons, if_neg c1, if_neg c2, if_neg c3, if_pos c4, hsp, htk]
      unfold kErr at h0 ⊢
      rw [hx] at h0
      rw [h0]
    · rw [if_neg c4] at hk; exact absurd rfl hk
theorem cat_ok {t : List Tok} {r : Res} (h : (cat t r).2.2 = 0) : r.2.2 = 0 ∧ cat t r = (t ++ r.1, 0, 0) := by
  unfold cat at h ⊢
  by_cases c : r.2.2 = 0
  · exact ⟨c, by rw [if_pos c]⟩
  · rw [if_neg c] at h; exact absurd h c
def wt (xs : List Tok) : Nat := (xs.map (fun t => t.2.1.length + 1)).sum
theorem lexF_good : ∀ (f k : Nat) (l : List UInt8), (lexF f k l).2.2 = 0 → ∃ xs : List Tok, lexF f k l = (xs ++ [(0, [], k + l.length)], 0, 0) ∧ (∀ t ∈ xs, Good t.1 t.2.1) ∧ wt xs ≤ 2 * l.length
  | 0, k, [] => fun _ => ⟨[], rfl, by simp, by simp [wt]⟩
  | _ + 1, k, [] => fun _ => ⟨[], rfl, by simp, by simp [wt]⟩
  | 0, k, b :: l => fun h => absurd h (by simp [lexF])
  | f + 1, k, b :: l => fun h => by
    have hst := lex_step f k (b :: l) (by simp) []
    rw [lex_norm] at hst
    rw [hst] at h ⊢
    by_cases c : (pieceF (b :: l)).2.2 = 0
    · rw [if_pos c] at h ⊢
      obtain ⟨h1, h2⟩ := cat_ok h
      obtain ⟨xs, e1, e2, e3⟩ := lexF_good f _ _ h1
      have hp := piece_len (b :: l) (by simp) c
      rw [h2, e1]
      have hl : ((b :: l).drop (pieceF (b :: l)).2.1).length = (b :: l).length - (pieceF (b :: l)).2.1 := List.length_drop
      refine ⟨LexG.tok (pieceF (b :: l)) (b :: l) k ++ xs, ?_, ?_, ?_⟩
      · rw [hl, show k + (pieceF (b :: l)).2.1 + ((b :: l).length - (pieceF (b :: l)).2.1) = k + (b :: l).length from by omega]
        simp
      · intro t ht
        rcases List.mem_append.1 ht with ht | ht
        · unfold LexG.tok at ht
          split at ht
          · simp at ht
          · rename_i hk
            simp at ht
            subst ht
            exact piece_good (b :: l) (by simp) c hk
        · exact e2 t ht
      · rw [hl] at e3
        have ht : wt (LexG.tok (pieceF (b :: l)) (b :: l) k) ≤ 2 * (pieceF (b :: l)).2.1 := by
          unfold LexG.tok
          split
          · simp [wt]
          · simp [wt]; omega
        have ha : wt (LexG.tok (pieceF (b :: l)) (b :: l) k ++ xs) = wt (LexG.tok (pieceF (b :: l)) (b :: l) k) + wt xs := by simp [wt]
        omega
    · rw [if_neg c] at h
      exact absurd h c
def kt (t : Tok) : Int × List UInt8 := (t.1, t.2.1)
theorem step_ok (f k : Nat) (l : List UInt8) (hne : l ≠ []) (p : Int × Nat × Int) (hp : pieceF l = p) (h0 : p.2.2 = 0) (ts : List Tok) (h : lexF f (k + p.2.1) (l.drop p.2.1) = (ts, 0, 0)) : lexF (f + 1) k l = (LexG.tok p l k ++ ts, 0, 0) := by
  have hst := lex_step f k l hne []
  rw [lex_norm, hp, if_pos h0, h] at hst
  rw [hst]
  simp [cat]
/-- Moved by d bytes. -/
def moved (d : Nat) (t : Tok) : Tok := (t.1, t.2.1, t.2.2 + d)
theorem lexF_move (d : Nat) : ∀ (f k : Nat) (l : List UInt8), (lexF f k l).2.2 = 0 → lexF f (k + d) l = ((lexF f k l).1.map (moved d), 0, 0)
  | 0, k, [] => fun _ => rfl
  | _ + 1, k, [] => fun _ => rfl
  | 0, k, b :: l => fun h => absurd h (by simp [lexF])
  | f + 1, k, b :: l => fun h => by
    have h1 := lex_step f k (b :: l) (by simp) []
    have h2 := lex_step f (k + d) (b :: l) (by simp) []
    rw [lex_norm] at h1 h2
    rw [h1] at h ⊢
    rw [h2]
    by_cases h0 : (pieceF (b :: l)).2.2 = 0
    · rw [if_pos h0] at h ⊢
      rw [if_pos h0]
      obtain ⟨g1, g2⟩ := cat_ok h
      have ih := lexF_move d f _ _ g1
      rw [g2, show k + d + (pieceF (b :: l)).2.1 = k + (pieceF (b :: l)).2.1 + d from by omega, ih]
      have ht : LexG.tok (pieceF (b :: l)) (b :: l) (k + d) = (LexG.tok (pieceF (b :: l)) (b :: l) k).map (moved d) := by
        unfold LexG.tok
        split <;> simp [moved]
      rw [ht]
      simp [cat]
    · rw [if_neg h0] at h
      exact absurd h h0
theorem lexF_fuel : ∀ (f g k : Nat) (l : List UInt8), l.length ≤ f → l.length ≤ g → lexF f k l = lexF g k l
  | f, g, k, [] => fun _ _ => by cases f <;> cases g <;> rfl
  | 0, _, _, _ :: _ => fun h _ => absurd h (by simp)
  | _ + 1, 0, _, _ :: _ => fun _ h => absurd h (by simp)
  | f + 1, g + 1, k, b :: l => fun hf hg => by
    have h1 := lex_step f k (b :: l) (by simp) []
    have h2 := lex_step g k (b :: l) (by simp) []
    rw [lex_norm] at h1 h2
    rw [h1, h2]
    by_cases h0 : (pieceF (b :: l)).2.2 = 0
    · have hp := piece_len (b :: l) (by simp) h0
      rw [if_pos h0, if_pos h0, lexF_fuel f g _ _ (by rw [List.length_drop]; omega) (by rw [List.length_drop]; omega)]
    · rw [if_neg h0, if_neg h0]
theorem piece_app (l rest : List UInt8) (hne : l ≠ []) : pieceF (l ++ 10 :: rest) = pieceF l := by
  cases l with
  | nil => exact absurd rfl hne
  | cons b l =>
    have s1 : spanL ncB (b :: l ++ 10 :: rest) = spanL ncB (b :: l) := span_stop ncB _ _ rfl
    have s2 : spanL ruB (b :: l ++ 10 :: rest) = spanL ruB (b :: l) := span_stop ruB _ _ rfl
    rw [List.cons_append] at s1 s2 ⊢
    rw [piece_cons, piece_cons, s1, s2]
    have ht : (b :: (l ++ 10 :: rest)).take (spanL ruB (b :: l)) = (b :: l).take (spanL ruB (b :: l)) := by
      rw [← List.cons_append, List.take_append_of_le_length (spanL_le _ _)]
    rw [ht]
theorem lexF_app (rest : List UInt8) : ∀ (f k : Nat) (l : List UInt8) (xs : List Tok), lexF f k l = (xs ++ [(0, [], k + l.length)], 0, 0) → ∀ F, l.length + rest.length + 1 ≤ F → lexF F k (l ++ 10 :: rest) = cat xs (lexF rest.length (k + l.length + 1) rest)
  | f, k, [], xs => fun h F hF => by
    have e : lexF f k [] = ([(0, [], k)], 0, 0) := by cases f <;> rfl
    rw [e] at h
    have hx : xs = [] := by
      have := congrArg (fun r : Res => r.1.length) h
      simp at this
      exact this
    subst hx
    obtain ⟨F', rfl⟩ : ∃ F', F = F' + 1 := ⟨F - 1, by omega⟩
    have h1 := lex_step F' k (10 :: rest) (by simp) []
    rw [lex_norm, show pieceF (10 :: rest) = (0, 1, 0) from by rw [piece_cons]; rfl, if_pos rfl] at h1
    rw [List.nil_append, h1, lexF_fuel F' rest.length _ _ (by simp at hF ⊢; omega) (by simp)]
    simp [LexG.tok]
  | 0, k, b :: l, xs => fun h => absurd (congrArg (fun r : Res => r.2.2) h) (by simp [lexF])
  | f + 1, k, b :: l, xs => fun h F hF => by
    have h1 := lex_step f k (b :: l) (by simp) []
    rw [lex_norm] at h1
    rw [h1] at h
    by_cases h0 : (pieceF (b :: l)).2.2 = 0
    · rw [if_pos h0] at h
      have hp := piece_len (b :: l) (by simp) h0
      obtain ⟨g1, g2⟩ := cat_ok (by rw [h])
      obtain ⟨ys, e1, _, _⟩ := lexF_good f _ _ g1
      rw [e1] at g2 h
      have hdl : ((b :: l).drop (pieceF (b :: l)).2.1).length = (b :: l).length - (pieceF (b :: l)).2.1 := List.length_drop
      have hkk : k + (pieceF (b :: l)).2.1 + ((b :: l).drop (pieceF (b :: l)).2.1).length = k + (b :: l).length := by omega
      rw [hkk] at e1 g2 h
      have hxs : xs = LexG.tok (pieceF (b :: l)) (b :: l) k ++ ys := by
        rw [g2] at h
        have := (Prod.mk.inj h).1
        rw [List.nil_append, ← List.append_assoc] at this
        exact (List.append_inj_left' this rfl).symm
      obtain ⟨F', rfl⟩ : ∃ F', F = F' + 1 := ⟨F - 1, by omega⟩
      have h2 := lex_step F' k (b :: l ++ 10 :: rest) (by simp) []
      rw [lex_norm, piece_app (b :: l) rest (by simp), if_pos h0] at h2
      have hd : (b :: l ++ 10 :: rest).drop (pieceF (b :: l)).2.1 = (b :: l).drop (pieceF (b :: l)).2.1 ++ 10 :: rest := List.drop_append_of_le_length hp.2
      have htk : LexG.tok (pieceF (b :: l)) (b :: l ++ 10 :: rest) k = LexG.tok (pieceF (b :: l)) (b :: l) k := by
        unfold LexG.tok
        rw [List.take_append_of_le_length hp.2]
      rw [h2, hd, htk]
      have ih := lexF_app rest f _ _ ys (by rw [hkk]; exact e1) F' (by rw [hdl]; simp at hF ⊢; omega)
      rw [ih, hkk, cat_cat, hxs]
      rfl
    · rw [if_neg h0] at h
      exact absurd (congrArg (fun r : Res => r.2.2) h) h0
/-- THE TOKENS OF TWO TEXTS ON SEPARATE LINES. -/
theorem lines (a b : List UInt8) (ha : a.length ≤ 1000) (hb : b.length ≤ 1000) (ta tb : List Tok) (h1 : lexR a = (ta, 0, 0)) (h2 : lexR b = (tb, 0, 0)) :
    ∃ xs n, ta = xs ++ [(0, [], n)] ∧ lexR (a ++ 10 :: b) = (xs ++ tb.map (moved (a.length + 1)), 0, 0) := by
  unfold lexR at h1 h2 ⊢
  rw [if_neg (by omega)] at h1 h2
  rw [if_neg (by simp; omega)]
  obtain ⟨xs, e1, _, _⟩ := lexF_good a.length 0 a (by rw [h1])
  rw [h1] at e1
  refine ⟨xs, _, (Prod.mk.inj e1).1, ?_⟩
  have h := lexF_app b a.length 0 a xs (by rw [h1]; exact e1) (a ++ 10 :: b).length (by simp; omega)
  have hm := lexF_move (a.length + 1) b.length 0 b (by rw [h2])
  rw [h2] at hm
  rw [h, show 0 + a.length + 1 = 0 + (a.length + 1) from by omega, hm]
  simp [cat]
end LexQ
end Go.Proofs.YtdalepdpobcpaaaDoor
