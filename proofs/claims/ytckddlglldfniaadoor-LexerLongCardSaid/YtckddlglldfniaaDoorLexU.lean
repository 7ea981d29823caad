/- Plain facts of layer 4: what lies between the tokens; the tokens of two texts on separate lines; blanks before a byte. No conditions. -/
import Derived.Test.YtckddlglldfniaaDoorLexT
namespace Go.Proofs.YtckddlglldfniaaDoor
open Go Go.RowKit
namespace LexU
open LexM LexE LexF LexG LexI LexW LexS LexJ LexT
/-- Is a gap blanks and comments? The flag: within a comment. -/
def scan : Bool → List UInt8 → Option Bool
  | c, [] => some c
  | c, b :: l => if ((b.toNat : Int) == 35 || (c && !((b.toNat : Int) == 10))) = true ∨ blB b.toNat = true then scan ((b.toNat : Int) == 35 || (c && !((b.toNat : Int) == 10))) l else none
theorem scan_app : ∀ (x y : List UInt8) (c : Bool), scan c (x ++ y) = (scan c x).bind (fun d => scan d y)
  | [], y, c => rfl
  | b :: x, y, c => by
    rw [List.cons_append, scan, scan]
    split
    · exact scan_app x y _
    · rfl
theorem scan_comment : ∀ (x : List UInt8), (∀ b ∈ x, ncB b.toNat = true) → scan true x = some true
  | [], _ => rfl
  | b :: x, h => by
    have hb : (!((b.toNat : Int) == 10)) = true := h b List.mem_cons_self
    rw [scan, hb]
    simp only [Bool.and_true, Bool.or_true, true_or, if_true]
    exact scan_comment x (fun a ha => h a (List.mem_cons_of_mem _ ha))
theorem tw_mem (p : Int → Bool) : ∀ (l : List UInt8) (b : UInt8), b ∈ l.takeWhile (fun b => p b.toNat) → p b.toNat = true
  | [], b, h => by simp at h
  | a :: l, b, h => by
    rw [List.takeWhile_cons] at h
    split at h
    · rename_i ha
      rcases List.mem_cons.1 h with rfl | h
      · exact ha
      · exact tw_mem p l b h
    · simp at h
theorem tw_rest (p : Int → Bool) : ∀ (l : List UInt8), l.drop (l.takeWhile (fun b => p b.toNat)).length = [] ∨ ∃ a t, l.drop (l.takeWhile (fun b => p b.toNat)).length = a :: t ∧ p a.toNat = false
  | [] => Or.inl rfl
  | a :: l => by
    rw [List.takeWhile_cons]
    by_cases h : p a.toNat = true
    · rw [if_pos h]; exact tw_rest p l
    · rw [if_neg h]; exact Or.inr ⟨a, l, rfl, by simpa using h⟩
def Cov (S : List UInt8) : Nat → List Tok → Prop
  | e, [] => e = S.length
  | e, t :: ts => e ≤ t.2.2 ∧ t.2.2 ≤ S.length ∧ t.2.1.length ≤ S.length - t.2.2 ∧ (S.drop t.2.2).take t.2.1.length = t.2.1 ∧ (∃ c, scan false ((S.drop e).take (t.2.2 - e)) = some c) ∧ Cov S (t.2.2 + t.2.1.length) ts
theorem take_split (S : List UInt8) (e k n : Nat) (he : e ≤ k) : (S.drop e).take (k + n - e) = (S.drop e).take (k - e) ++ (S.drop k).take n := by
  have h1 : k + n - e = (k - e) + n := by omega
  rw [h1, List.take_add, List.drop_drop]
  congr 2
  congr 1
  omega
theorem lexF_cov (S : List UInt8) : ∀ (f k : Nat) (l : List UInt8) (e : Nat) (c : Bool), S.drop k = l → k ≤ S.length → e ≤ k → scan false ((S.drop e).take (k - e)) = some c → (c = true → l = [] ∨ ∃ t, l = 10 :: t) → (lexF f k l).2.2 = 0 → Cov S e (lexF f k l).1
  | f, k, [], e, c, hS, hk, he, hsc, _, _ => by
    have hkl : k = S.length := by
      have := congrArg List.length hS
      simp at this
      omega
    have : lexF f k [] = ([(0, [], k)], 0, 0) := by cases f <;> rfl
    rw [this]
    exact ⟨he, hk, by simp, by simp, ⟨c, hsc⟩, by simp [Cov, hkl]⟩
  | 0, k, b :: l, e, c, _, _, _, _, _, h => absurd h (by simp [lexF])
  | f + 1, k, b :: l, e, c, hS, hk, he, hsc, hc, h => by
    have hst := lex_step f k (b :: l) (by simp) []
    rw [lex_norm] at hst
    rw [hst] at h ⊢
    by_cases h0 : (pieceF (b :: l)).2.2 = 0
    · rw [if_pos h0] at h ⊢
      obtain ⟨h1, h2⟩ := cat_ok h
      rw [h2]
      have hp := piece_len (b :: l) (by simp) h0
      have hSl : (b :: l).length = S.length - k := by rw [← hS]; simp
      have hd : S.drop (k + (pieceF (b :: l)).2.1) = (b :: l).drop (pieceF (b :: l)).2.1 := by
        rw [← hS, List.drop_drop]
      by_cases hk0 : (pieceF (b :: l)).1 = 0
      · have ht : LexG.tok (pieceF (b :: l)) (b :: l) k = [] := by unfold LexG.tok; rw [if_pos hk0]
        rw [ht, List.append_nil, List.nil_append]
        have key : ∃ c', scan false ((S.drop e).take (k + (pieceF (b :: l)).2.1 - e)) = some c' ∧ (c' = true → (b :: l).drop (pieceF (b :: l)).2.1 = [] ∨ ∃ t, (b :: l).drop (pieceF (b :: l)).2.1 = 10 :: t) := by
          rw [take_split S e k _ he, scan_app, hsc, hS]
          show ∃ c', scan c ((b :: l).take (pieceF (b :: l)).2.1) = some c' ∧ _
          rw [piece_cons] at h0 hk0 ⊢
          by_cases c1 : blB b.toNat = true
          · rw [if_pos c1]
            refine ⟨false, ?_, fun h => by cases h⟩
            show scan c [b] = some false
            have n35 : ((b.toNat : Int) == 35) = false := by
              cases q : ((b.toNat : Int) == 35)
              · rfl
              · have : (b.toNat : Int) = 35 := by simpa using q
                rw [this] at c1
                exact absurd c1 (by decide)
            have hcc : (c && !((b.toNat : Int) == 10)) = false := by
              cases c
              · rfl
              · rcases hc rfl with h | ⟨t, h⟩
                · simp at h
                · have : b = 10 := (List.cons.inj h).1
                  rw [this]; rfl
            rw [scan, n35, hcc, if_pos (Or.inr c1)]
            rfl
          · rw [if_neg c1] at h0 hk0 ⊢
            by_cases c2 : ((b.toNat : Int) == 35) = true
            · rw [if_pos c2]
              dsimp only
              have h35 : (b.toNat : Int) = 35 := by simpa using c2
              refine ⟨true, ?_, fun _ => ?_⟩
              · rw [take_span, List.takeWhile_cons, if_pos (by rw [h35]; rfl), scan, c2]
                simp only [Bool.true_or, true_or, if_true]
                exact scan_comment _ (fun a ha => tw_mem ncB _ a ha)
              · unfold spanL
                rcases tw_rest ncB (b :: l) with h | ⟨a, t, h, hn⟩
                · exact Or.inl h
                · right
                  have : a = 10 := by
                    apply UInt8.toNat_inj.1
                    have h10 : (a.toNat : Int) = 10 := by simpa [ncB] using hn
                    show a.toNat = 10
                    omega
                  exact ⟨t, by rw [h, this]⟩
            · rw [if_neg c2] at h0 hk0
              by_cases c3 : syB b.toNat = true
              · rw [if_pos c3] at hk0; exact absurd hk0 (by decide)
              · rw [if_neg c3] at h0 hk0
                by_cases c4 : ruB b.toNat = true
                · rw [if_pos c4] at h0 hk0
                  dsimp only at h0 hk0
                  unfold kErr at h0
                  rw [if_pos hk0] at h0
                  exact absurd h0 (by decide)
                · rw [if_neg c4] at h0; exact absurd h0 (by decide)
        obtain ⟨c', k1, k2⟩ := key
        exact lexF_cov S f _ _ e c' hd (by omega) (by omega) k1 k2 h1
      · have ht : LexG.tok (pieceF (b :: l)) (b :: l) k = [((pieceF (b :: l)).1, (b :: l).take (pieceF (b :: l)).2.1, k)] := by unfold LexG.tok; rw [if_neg hk0]
        rw [ht, List.nil_append, List.singleton_append]
        have hlen : ((b :: l).take (pieceF (b :: l)).2.1).length = (pieceF (b :: l)).2.1 := by rw [List.length_take]; omega
        refine ⟨he, hk, by dsimp only; omega, by dsimp only; rw [hlen, hS], ⟨c, hsc⟩, ?_⟩
        dsimp only
        rw [hlen]
        exact lexF_cov S f _ _ _ false hd (by omega) (Nat.le_refl _) (by rw [Nat.sub_self]; rfl) (fun h => by cases h) h1
    · rw [if_neg h0] at h
      exact absurd h h0
theorem covers (l : List UInt8) (ts : List Tok) (h : lexR l = (ts, 0, 0)) : Cov l 0 ts := by
  unfold lexR at h
  split at h
  · exact absurd (congrArg (fun r : Res => r.2.2) h) (by show ¬ (2 : Int) = 0; decide)
  · have := lexF_cov l l.length 0 l 0 false (by simp) (by omega) (Nat.le_refl _) rfl (fun h => by cases h) (by rw [h])
    rwa [h] at this
/-- Moved by d bytes. -/
def moved (d : Nat) (t : Tok) : Tok := (t.1, t.2.1, t.2.2 + d)
theorem lexF_move (d : Nat) : ∀ (f k : Nat) (l : List UInt8), (lexF f k l).2.2 = 0 → lexF f (k + d) l = ((lexF f k l).1.map (moved d), 0, 0)
  | 0, k, [] => fun _ => rfl
  | _ + 1, k, [] => fun _ => rfl
  | 0, k, b :: l => fun h => absurd h (by simp [lexF])
  | f + 1, k, b :: l => fun h => by
    have h1 := lex_step f k (b :: l) (by simp) []
    have h2 := lex_step f (k + d) (b :: l) (by simp) []
    rw [lex_norm] at h1 h2
    rw [h1] at h ⊢
    rw [h2]
    by_cases h0 : (pieceF (b :: l)).2.2 = 0
    · rw [if_pos h0] at h ⊢
      rw [if_pos h0]
      obtain ⟨g1, g2⟩ := cat_ok h
      have ih := lexF_move d f _ _ g1
      rw [g2, show k + d + (pieceF (b :: l)).2.1 = k + (pieceF (b :: l)).2.1 + d from by omega, ih]
      have ht : LexG.tok (pieceF (b :: l)) (b :: l) (k + d) = (LexG.tok (pieceF (b :: l)) (b :: l) k).map (moved d) := by
        unfold LexG.tok
        split <;> simp [moved]
      rw [ht]
      simp [cat]
    · rw [if_neg h0] at h
      exact absurd h h0
theorem lexF_fuel : ∀ (f g k : Nat) (l : List UInt8), l.length ≤ f → l.length ≤ g → lexF f k l = lexF g k l
  | f, g, k, [] => fun _ _ => by cases f <;> cases g <;> rfl
  | 0, _, _, _ :: _ => fun h _ => absurd h (by simp)
  | _ + 1, 0, _, _ :: _ => fun _ h => absurd h (by simp)
  | f + 1, g + 1, k, b :: l => fun hf hg => by
    have h1 := lex_step f k (b :: l) (by simp) []
    have h2 := lex_step g k (b :: l) (by simp) []
    rw [lex_norm] at h1 h2
    rw [h1, h2]
    by_cases h0 : (pieceF (b :: l)).2.2 = 0
    · have hp := piece_len (b :: l) (by simp) h0
      rw [if_pos h0, if_pos h0, lexF_fuel f g _ _ (by rw [List.length_drop]; omega) (by rw [List.length_drop]; omega)]
    · rw [if_neg h0, if_neg h0]
theorem piece_app (l rest : List UInt8) (hne : l ≠ []) : pieceF (l ++ 10 :: rest) = pieceF l := by
  cases l with
  | nil => exact absurd rfl hne
  | cons b l =>
    have s1 : spanL ncB (b :: l ++ 10 :: rest) = spanL ncB (b :: l) := span_stop ncB _ _ rfl
    have s2 : spanL ruB (b :: l ++ 10 :: rest) = spanL ruB (b :: l) := span_stop ruB _ _ rfl
    rw [List.cons_append] at s1 s2 ⊢
    rw [piece_cons, piece_cons, s1, s2]
    have ht : (b :: (l ++ 10 :: rest)).take (spanL ruB (b :: l)) = (b :: l).take (spanL ruB (b :: l)) := by
      rw [← List.cons_append, List.take_append_of_le_length (spanL_le _ _)]
    rw [ht]
theorem lexF_app (rest : List UInt8) : ∀ (f k : Nat) (l : List UInt8) (xs : List Tok), lexF f k l = (xs ++ [(0, [], k + l.length)], 0, 0) → ∀ F, l.length + rest.length + 1 ≤ F → lexF F k (l ++ 10 :: rest) = cat xs (lexF rest.length (k + l.length + 1) rest)
  | f, k, [], xs => fun h F hF => by
    have e : lexF f k [] = ([(0, [], k)], 0, 0) := by cases f <;> rfl
    rw [e] at h
    have hx : xs = [] := by
      have := congrArg (fun r : Res => r.1.length) h
      simp at this
      exact this
    subst hx
    obtain ⟨F', rfl⟩ : ∃ F', F = F' + 1 := ⟨F - 1, by omega⟩
    have h1 := lex_step F' k (10 :: rest) (by simp) []
    rw [lex_norm, show pieceF (10 :: rest) = (0, 1, 0) from by rw [piece_cons]; rfl, if_pos rfl] at h1
    rw [List.nil_append, h1, lexF_fuel F' rest.length _ _ (by simp at hF ⊢; omega) (by simp)]
    simp [LexG.tok]
  | 0, k, b :: l, xs => fun h => absurd (congrArg (fun r : Res => r.2.2) h) (by simp [lexF])
  | f + 1, k, b :: l, xs => fun h F hF => by
    have h1 := lex_step f k (b :: l) (by simp) []
    rw [lex_norm] at h1
    rw [h1] at h
    by_cases h0 : (pieceF (b :: l)).2.2 = 0
    · rw [if_pos h0] at h
      have hp := piece_len (b :: l) (by simp) h0
      obtain ⟨g1, g2⟩ := cat_ok (by rw [h])
      obtain ⟨ys, e1, _, _⟩ := lexF_good f _ _ g1
      rw [e1] at g2 h
      have hdl : ((b :: l).drop (pieceF (b :: l)).2.1).length = (b :: l).length - (pieceF (b :: l)).2.1 := List.length_drop
      have hkk : k + (pieceF (b :: l)).2.1 + ((b :: l).drop (pieceF (b :: l)).2.1).length = k + (b :: l).length := by omega
      rw [hkk] at e1 g2 h
      have hxs : xs = LexG.tok (pieceF (b :: l)) (b :: l) k ++ ys := by
        rw [g2] at h
        have := (Prod.mk.inj h).1
        rw [List.nil_append, ← List.append_assoc] at this
        exact (List.append_inj_left' this rfl).symm
      obtain ⟨F', rfl⟩ : ∃ F', F = F' + 1 := ⟨F - 1, by omega⟩
      have h2 := lex_step F' k (b :: l ++ 10 :: rest) (by simp) []
      rw [lex_norm, piece_app (b :: l) rest (by simp), if_pos h0] at h2
      have hd : (b :: l ++ 10 :: rest).drop (pieceF (b :: l)).2.1 = (b :: l).drop (pieceF (b :: l)).2.1 ++ 10 :: rest := List.drop_append_of_le_length hp.2
      have htk : LexG.tok (pieceF (b :: l)) (b :: l ++ 10 :: rest) k = LexG.tok (pieceF (b :: l)) (b :: l) k := by
        unfold LexG.tok
        rw [List.take_append_of_le_length hp.2]
      rw [h2, hd, htk]
      have ih := lexF_app rest f _ _ ys (by rw [hkk]; exact e1) F' (by rw [hdl]; simp at hF ⊢; omega)
      rw [ih, hkk, cat_cat, hxs]
      rfl
    · rw [if_neg h0] at h
      exact absurd (congrArg (fun r : Res => r.2.2) h) h0
/-- THE TOKENS OF TWO TEXTS ON SEPARATE LINES. -/
theorem lines (a b : List UInt8) (ha : a.length ≤ 1000) (hb : b.length ≤ 1000) (ta tb : List Tok) (h1 : lexR a = (ta, 0, 0)) (h2 : lexR b = (tb, 0, 0)) :
    ∃ xs n, ta = xs ++ [(0, [], n)] ∧ lexR (a ++ 10 :: b) = (xs ++ tb.map (moved (a.length + 1)), 0, 0) := by
  unfold lexR at h1 h2 ⊢
  rw [if_neg (by omega)] at h1 h2
  rw [if_neg (by simp; omega)]
  obtain ⟨xs, e1, _, _⟩ := lexF_good a.length 0 a (by rw [h1])
  rw [h1] at e1
  refine ⟨xs, _, (Prod.mk.inj e1).1, ?_⟩
  have h := lexF_app b a.length 0 a xs (by rw [h1]; exact e1) (a ++ 10 :: b).length (by simp; omega)
  have hm := lexF_move (a.length + 1) b.length 0 b (by rw [h2])
  rw [h2] at hm
  rw [h, show 0 + a.length + 1 = 0 + (a.length + 1) from by omega, hm]
  simp [cat]
end LexU
end Go.Proofs.YtckddlglldfniaaDoor
