/- Plain facts of layer 4: which tokens a text has, what separates them, what their joined text has, and the tokens of two texts on separate lines. No conditions. -/
import Derived.Test.YtckddlglldfniaaDoorLexJ
namespace Go.Proofs.YtckddlglldfniaaDoor
open Go Go.RowKit
namespace LexT
open LexM LexE LexF LexG LexI LexW LexS LexJ
def stops (p : Int → Bool) : List UInt8 → Bool
  | [] => true
  | b :: _ => !p b.toNat
theorem tw_stop (p : Int → Bool) (x rest : List UInt8) (hs : stops p rest = true) : (x ++ rest).takeWhile (fun b => p b.toNat) = x.takeWhile (fun b => p b.toNat) := by
  induction x with
  | nil =>
    cases rest with
    | nil => rfl
    | cons b r =>
      have : p b.toNat = false := by simpa [stops] using hs
      simp [this]
  | cons a x ih =>
    rw [List.cons_append, List.takeWhile_cons, List.takeWhile_cons]
    split
    · rw [ih]
    · rfl
theorem span_stop (p : Int → Bool) (x rest : List UInt8) (hs : stops p rest = true) : spanL p (x ++ rest) = spanL p x := by
  unfold spanL; rw [tw_stop p x rest hs]
theorem take_span (p : Int → Bool) (l : List UInt8) : l.take (spanL p l) = l.takeWhile (fun b => p b.toNat) := by
  unfold spanL
  exact (List.prefix_iff_eq_take.1 (List.takeWhile_prefix _)).symm
theorem tw_self (p : Int → Bool) (l : List UInt8) : (l.takeWhile (fun b => p b.toNat)).takeWhile (fun b => p b.toNat) = l.takeWhile (fun b => p b.toNat) := by
  induction l with
  | nil => rfl
  | cons b l ih =>
    rw [List.takeWhile_cons]
    split
    · rename_i h
      rw [List.takeWhile_cons, if_pos h, ih]
    · rfl
theorem span_self (p : Int → Bool) (l : List UInt8) : spanL p (l.take (spanL p l)) = spanL p l := by
  rw [take_span]
  unfold spanL
  rw [tw_self]
/-- A kind and a text that are read back before whatever ends a run. -/
def Good (k : Int) (x : List UInt8) : Prop := k ≠ 0 ∧ x ≠ [] ∧ ∀ rest, stops ruB rest = true → pieceF (x ++ rest) = (k, x.length, 0)
theorem piece_cons (b : UInt8) (l : List UInt8) : pieceF (b :: l) = if blB b.toNat = true then (0, 1, 0) else if ((b.toNat : Int) == 35) = true then (0, spanL ncB (b :: l), 0) else if syB b.toNat = true then (4, 1, 0)
    else if ruB b.toNat = true then (kindL ((b :: l).take (spanL ruB (b :: l))), spanL ruB (b :: l), kErr (kindL ((b :: l).take (spanL ruB (b :: l))))) else (0, 0, 1) := rfl
theorem piece_good (l : List UInt8) (hne : l ≠ []) (h0 : (pieceF l).2.2 = 0) (hk : (pieceF l).1 ≠ 0) : Good (pieceF l).1 (l.take (pieceF l).2.1) := by
  cases l with
  | nil => exact absurd rfl hne
  | cons b t =>
    rw [piece_cons] at h0 hk ⊢
    by_cases c1 : blB b.toNat = true
    · rw [if_pos c1] at hk; exact absurd rfl hk
    rw [if_neg c1] at h0 hk ⊢
    by_cases c2 : ((b.toNat : Int) == 35) = true
    · rw [if_pos c2] at hk; exact absurd rfl hk
    rw [if_neg c2] at h0 hk ⊢
    by_cases c3 : syB b.toNat = true
    · rw [if_pos c3]
      refine ⟨by decide, by simp, fun rest _ => ?_⟩
      show pieceF (b :: rest) = (4, 1, 0)
      rw [piece_cons, if_neg c1, if_neg c2, if_pos c3]
    rw [if_neg c3] at h0 hk ⊢
    by_cases c4 : ruB b.toNat = true
    · rw [if_pos c4] at h0 hk ⊢
      dsimp only at h0 hk ⊢
      have hpos := span_pos ruB b t c4
      have hle := spanL_le ruB (b :: t)
      have hself := span_self ruB (b :: t)
      generalize hn : spanL ruB (b :: t) = n at *
      have hx : (b :: t).take n = b :: t.take (n - 1) := by
        obtain ⟨m, rfl⟩ : ∃ m, n = m + 1 := ⟨n - 1, by omega⟩
        simp
      have hlen : ((b :: t).take n).length = n := by rw [List.length_take]; omega
      refine ⟨hk, by rw [hx]; simp, fun rest hs => ?_⟩
      have hsp : spanL ruB ((b :: t).take n ++ rest) = n := by rw [span_stop ruB _ rest hs, hself]
      have htk : ((b :: t).take n ++ rest).take n = (b :: t).take n := by
        rw [List.take_append_of_le_length (by omega), List.take_of_length_le (by omega)]
      rw [hlen]
      rw [hx] at hsp htk ⊢
      rw [List.cons_append] at hsp htk ⊢
      rw [piece_cons, if_neg c1, if_neg c2, if_neg c3, if_pos c4, hsp, htk]
      unfold kErr at h0 ⊢
      rw [hx] at h0
      rw [h0]
    · rw [if_neg c4] at hk; exact absurd rfl hk
theorem cat_ok {t : List Tok} {r : Res} (h : (cat t r).2.2 = 0) : r.2.2 = 0 ∧ cat t r = (t ++ r.1, 0, 0) := by
  unfold cat at h ⊢
  by_cases c : r.2.2 = 0
  · exact ⟨c, by rw [if_pos c]⟩
  · rw [if_neg c] at h; exact absurd h c
def wt (xs : List Tok) : Nat := (xs.map (fun t => t.2.1.length + 1)).sum
theorem lexF_good : ∀ (f k : Nat) (l : List UInt8), (lexF f k l).2.2 = 0 → ∃ xs : List Tok, lexF f k l = (xs ++ [(0, [], k + l.length)], 0, 0) ∧ (∀ t ∈ xs, Good t.1 t.2.1) ∧ wt xs ≤ 2 * l.length
  | 0, k, [] => fun _ => ⟨[], rfl, by simp, by simp [wt]⟩
  | _ + 1, k, [] => fun _ => ⟨[], rfl, by simp, by simp [wt]⟩
  | 0, k, b :: l => fun h => absurd h (by simp [lexF])
  | f + 1, k, b :: l => fun h => by
    have hst := lex_step f k (b :: l) (by simp) []
    rw [lex_norm] at hst
    rw [hst] at h ⊢
    by_cases c : (pieceF (b :: l)).2.2 = 0
    · rw [if_pos c] at h ⊢
      obtain ⟨h1, h2⟩ := cat_ok h
      obtain ⟨xs, e1, e2, e3⟩ := lexF_good f _ _ h1
      have hp := piece_len (b :: l) (by simp) c
      rw [h2, e1]
      have hl : ((b :: l).drop (pieceF (b :: l)).2.1).length = (b :: l).length - (pieceF (b :: l)).2.1 := List.length_drop
      refine ⟨LexG.tok (pieceF (b :: l)) (b :: l) k ++ xs, ?_, ?_, ?_⟩
      · rw [hl, show k + (pieceF (b :: l)).2.1 + ((b :: l).length - (pieceF (b :: l)).2.1) = k + (b :: l).length from by omega]
        simp
      · intro t ht
        rcases List.mem_append.1 ht with ht | ht
        · unfold LexG.tok at ht
          split at ht
          · simp at ht
          · rename_i hk
            simp at ht
            subst ht
            exact piece_good (b :: l) (by simp) c hk
        · exact e2 t ht
      · rw [hl] at e3
        have ht : wt (LexG.tok (pieceF (b :: l)) (b :: l) k) ≤ 2 * (pieceF (b :: l)).2.1 := by
          unfold LexG.tok
          split
          · simp [wt]
          · simp [wt]; omega
        have ha : wt (LexG.tok (pieceF (b :: l)) (b :: l) k ++ xs) = wt (LexG.tok (pieceF (b :: l)) (b :: l) k) + wt xs := by simp [wt]
        omega
    · rw [if_neg c] at h
      exact absurd h c
def kt (t : Tok) : Int × List UInt8 := (t.1, t.2.1)
theorem step_ok (f k : Nat) (l : List UInt8) (hne : l ≠ []) (p : Int × Nat × Int) (hp : pieceF l = p) (h0 : p.2.2 = 0) (ts : List Tok) (h : lexF f (k + p.2.1) (l.drop p.2.1) = (ts, 0, 0)) : lexF (f + 1) k l = (LexG.tok p l k ++ ts, 0, 0) := by
  have hst := lex_step f k l hne []
  rw [lex_norm, hp, if_pos h0, h] at hst
  rw [hst]
  simp [cat]
theorem tail_stops (xs : List (List UInt8)) : stops ruB (Lib.joinTail [32] xs) = true := by
  cases xs with
  | nil => rfl
  | cons x r => rfl
theorem relex_one (x : List UInt8) (c : Int) (hg : Good c x) (tail : List UInt8) (hs : stops ruB tail = true) (ws : List (Int × List UInt8)) (ih : ∀ (f k : Nat), tail.length ≤ f → ∃ ts, lexF f k tail = (ts, 0, 0) ∧ ts.map kt = ws) :
    ∀ (f k : Nat), (x ++ tail).length ≤ f → ∃ ts, lexF f k (x ++ tail) = (ts, 0, 0) ∧ ts.map kt = (c, x) :: ws := by
  intro f k hf
  obtain ⟨hc, hx, hp⟩ := hg
  have hxl : 0 < x.length := List.length_pos_iff.2 hx
  rw [List.length_append] at hf
  obtain ⟨f', rfl⟩ : ∃ f', f = f' + 1 := ⟨f - 1, by omega⟩
  obtain ⟨ts, h1, h2⟩ := ih f' (k + x.length) (by omega)
  have hd : (x ++ tail).drop x.length = tail := by simp
  have h := step_ok f' k (x ++ tail) (by simp [hx]) (c, x.length, 0) (hp tail hs) rfl ts (by dsimp only; rw [hd]; exact h1)
  refine ⟨_, h, ?_⟩
  unfold LexG.tok
  rw [if_neg hc]
  simp [kt, h2]
theorem relex_tail : ∀ (xs : List Tok), (∀ t ∈ xs, Good t.1 t.2.1) → ∀ (f k : Nat), (Lib.joinTail [32] (xs.map (·.2.1))).length ≤ f → ∃ ts, lexF f k (Lib.joinTail [32] (xs.map (·.2.1))) = (ts, 0, 0) ∧ ts.map kt = xs.map kt ++ [(0, [])]
  | [], _ => fun f k _ => ⟨[(0, [], k)], by cases f <;> rfl, rfl⟩
  | x :: xs, hg => fun f k hf => by
    have e : Lib.joinTail [32] ((x :: xs).map (·.2.1)) = 32 :: (x.2.1 ++ Lib.joinTail [32] (xs.map (·.2.1))) := by simp [Lib.joinTail]
    rw [e] at hf ⊢
    have ih := relex_tail xs (fun t ht => hg t (List.mem_cons_of_mem _ ht))
    have h1 := relex_one x.2.1 x.1 (hg x List.mem_cons_self) (Lib.joinTail [32] (xs.map (·.2.1))) (tail_stops _) _ ih
    rw [List.length_cons] at hf
    obtain ⟨f', rfl⟩ : ∃ f', f = f' + 1 := ⟨f - 1, by omega⟩
    obtain ⟨ts, h2, h3⟩ := h1 f' (k + 1) (by omega)
    have h := step_ok f' k (32 :: (x.2.1 ++ Lib.joinTail [32] (xs.map (·.2.1)))) (by simp) (0, 1, 0) (by rw [piece_cons]; rfl) rfl ts (by simpa using h2)
    exact ⟨_, h, by simp [LexG.tok, h3, kt]⟩
theorem relex (xs : List Tok) (hg : ∀ t ∈ xs, Good t.1 t.2.1) (f k : Nat) (hf : (Lib.join (xs.map (·.2.1)) [32]).length ≤ f) : ∃ ts, lexF f k (Lib.join (xs.map (·.2.1)) [32]) = (ts, 0, 0) ∧ ts.map kt = xs.map kt ++ [(0, [])] := by
  cases xs with
  | nil => exact ⟨[(0, [], k)], by cases f <;> rfl, rfl⟩
  | cons x xs =>
    rw [List.map_cons, Lib.join_cons] at hf ⊢
    exact relex_one x.2.1 x.1 (hg x List.mem_cons_self) _ (tail_stops _) _ (relex_tail xs (fun t ht => hg t (List.mem_cons_of_mem _ ht))) f k hf
theorem tail_len (xs : List Tok) : (Lib.joinTail [32] (xs.map (·.2.1))).length = wt xs := by
  induction xs with
  | nil => rfl
  | cons x xs ih =>
    have e : Lib.joinTail [32] ((x :: xs).map (·.2.1)) = 32 :: (x.2.1 ++ Lib.joinTail [32] (xs.map (·.2.1))) := by simp [Lib.joinTail]
    rw [e]
    simp [ih, wt]
    omega
theorem join_len (xs : List Tok) : (Lib.join (xs.map (·.2.1)) [32]).length ≤ wt xs := by
  cases xs with
  | nil => simp [Lib.join_nil]
  | cons x xs =>
    rw [List.map_cons, Lib.join_cons, List.length_append, tail_len]
    simp [wt]
theorem texts_good (xs : List Tok) (n : Nat) (hg : ∀ t ∈ xs, Good t.1 t.2.1) : (texts ((xs ++ [(0, [], n)]).map gt)).map (·.data.toList) = xs.map (·.2.1) := by
  unfold texts
  rw [List.map_append, List.filter_append]
  have h1 : (xs.map gt).filter (fun t => !(t.1 == 0)) = xs.map gt := by
    rw [List.filter_eq_self]
    intro t ht
    obtain ⟨u, hu, rfl⟩ := List.mem_map.1 ht
    simpa [gt] using (hg u hu).1
  rw [h1]
  simp [gt, bs, Function.comp_def]
/-- THE TOKENS OF THE JOINED TEXT. -/
theorem back (l : List UInt8) (hl : l.length ≤ 2000) (ts : List Tok) (h : lexR l = (ts, 0, 0)) : (joinT (ts.map gt)).length ≤ 4000 ∧ ∃ ts', lexR (joinT (ts.map gt)) = (ts', 0, 0) ∧ ts'.map kt = ts.map kt := by
  unfold lexR at h
  rw [if_neg (by omega)] at h
  obtain ⟨xs, e1, e2, e3⟩ := lexF_good l.length 0 l (by rw [h])
  rw [h] at e1
  obtain rfl : ts = xs ++ [(0, [], 0 + l.length)] := (Prod.mk.inj e1).1
  have ej : joinT ((xs ++ [(0, [], 0 + l.length)]).map gt) = Lib.join (xs.map (·.2.1)) [32] := by
    unfold joinT; rw [texts_good xs _ e2]
  have hlen := join_len xs
  rw [ej]
  refine ⟨by omega, ?_⟩
  obtain ⟨ts', h1, h2⟩ := relex xs e2 (Lib.join (xs.map (·.2.1)) [32]).length 0 (Nat.le_refl _)
  refine ⟨ts', ?_, by rw [h2]; simp [kt]⟩
  unfold lexR
  rw [if_neg (by omega)]
  exact h1
end LexT
end Go.Proofs.YtckddlglldfniaaDoor
