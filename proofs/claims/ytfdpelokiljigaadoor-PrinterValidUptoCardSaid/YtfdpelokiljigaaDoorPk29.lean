/- Texts laid together: PriR. Their own heads stand before each. -/
import Derived.Test.YtfdpelokiljigaaDoorPk17
import Derived.Test.YtfdpelokiljigaaDoorPk28
/- The canonical text read back: the tokens of a valid rule's text, and what the plain parser makes of them. No conditions. -/
namespace Go.Proofs.YtfdpelokiljigaaDoor
open Go Go.RowKit
namespace PriR
open Kit LexM TermM LexE LexF LexG LexP LexQ ParM ParV ParN PriM PriC PriD PriK
/-! ### The text's tokens -/
abbrev Wt := Int × List UInt8
/-- The text has these tokens, the end's one last. -/
def Lx (l : List UInt8) (ws : List Wt) : Prop := ∀ f k : Nat, l.length ≤ f → ∃ ts, lexF f k l = (ts, 0, 0) ∧ ts.map kt = ws
theorem lx_nil : Lx [] [(0, [])] := fun f k _ => ⟨[(0, [], k)], by cases f <;> rfl, rfl⟩
theorem lx_step {l tail : List UInt8} {ws : List Wt} {n : Nat} {c : Int} (hne : l ≠ []) (hn : 1 ≤ n) (hl : l.length = n + tail.length) (hp : pieceF l = (c, n, 0)) (hd : l.drop n = tail) (h : Lx tail ws) :
    Lx l ((if c = 0 then [] else [(c, l.take n)]) ++ ws) := by
  intro f k hf
  obtain ⟨f', rfl⟩ : ∃ f', f = f' + 1 := ⟨f - 1, by omega⟩
  obtain ⟨ts, h1, h2⟩ := h f' (k + n) (by omega)
  have h3 := step_ok f' k l hne (c, n, 0) hp rfl ts (by dsimp only; rw [hd]; exact h1)
  refine ⟨_, h3, ?_⟩
  rw [List.map_append, h2]
  unfold LexG.tok
  dsimp only
  split <;> rfl
theorem lx_blank {b : UInt8} {l : List UInt8} {ws : List Wt} (hb : blB b.toNat = true) (h : Lx l ws) : Lx (b :: l) ws :=
  lx_step (n := 1) (c := 0) (by simp) (by omega) (by simp; omega) (by rw [piece_cons, if_pos hb]) rfl h
theorem lx_sym {b : UInt8} {l : List UInt8} {ws : List Wt} (h1 : blB b.toNat = false) (h2 : ((b.toNat : Int) == 35) = false) (h3 : syB b.toNat = true) (h : Lx l ws) : Lx (b :: l) ((4, [b]) :: ws) :=
  lx_step (n := 1) (c := 4) (by simp) (by omega) (by simp; omega) (by rw [piece_cons, if_neg (by simp [h1]), if_neg (by simp [h2]), if_pos h3]) rfl h
theorem lx_word {x tail : List UInt8} {c : Int} {ws : List Wt} (hg : LexQ.Good c x) (hs : stops ruB tail = true) (h : Lx tail ws) : Lx (x ++ tail) ((c, x) :: ws) := by
  obtain ⟨hc, hx, hp⟩ := hg
  have hxl : 1 ≤ x.length := List.length_pos_iff.2 hx
  have := lx_step (l := x ++ tail) (n := x.length) (c := c) (by simp [hx]) hxl (by simp) (hp tail hs) (by simp) h
  rw [if_neg hc] at this
  simpa using this
theorem tw_all (p : Int → Bool) : ∀ x : List UInt8, allB p x = true → x.takeWhile (fun b => p b.toNat) = x
  | [], _ => rfl
  | a :: x, h => by
    simp only [allB, List.all_cons, Bool.and_eq_true] at h
    rw [List.takeWhile_cons, if_pos h.1, tw_all p x (by simpa [allB] using h.2)]
theorem span_all (p : Int → Bool) (x rest : List UInt8) (ha : allB p x = true) (hs : stops p rest = true) : spanL p (x ++ rest) = x.length := by
  rw [span_stop p x rest hs]
  unfold spanL
  rw [tw_all p x ha]
theorem ru_not {n : Int} (h : ruB n = true) : blB n = false ∧ (n == 35) = false ∧ syB n = false := by
  unfold ruB loB upB dgB at h
  simp only [Bool.or_eq_true, Bool.and_eq_true, decide_eq_true_eq, beq_iff_eq] at h
  refine ⟨?_, ?_, ?_⟩
  · unfold blB; simp only [Bool.or_eq_false_iff, beq_eq_false_iff_ne]; omega
  · simp only [beq_eq_false_iff_ne]; omega
  · unfold syB; simp only [Bool.or_eq_false_iff, beq_eq_false_iff_ne]; omega
theorem good_run {x : List UInt8} (hne : x ≠ []) (ha : allB ruB x = true) (hk : kindL x ≠ 0) : LexQ.Good (kindL x) x := by
  refine ⟨hk, hne, fun rest hs => ?_⟩
  have hsp := span_all ruB x rest ha hs
  cases x with
  | nil => exact absurd rfl hne
  | cons b t =>
    have hb : ruB b.toNat = true := by simp only [allB, List.all_cons, Bool.and_eq_true] at ha; exact ha.1
    obtain ⟨q1, q2, q3⟩ := ru_not hb
    have htk : ((b :: t) ++ rest).take (b :: t).length = b :: t := List.take_left' rfl
    rw [List.cons_append] at hsp htk ⊢
    rw [piece_cons, if_neg (by simp [q1]), if_neg (by simp [q2]), if_neg (by simp [q3]), if_pos hb, hsp, htk]
    unfold kErr
    rw [if_neg hk]
theorem all_mono {p q : Int → Bool} (h : ∀ n, p n = true → q n = true) {x : List UInt8} (hx : allB p x = true) : allB q x = true := by
  unfold allB at *
  rw [List.all_eq_true] at *
  exact fun b hb => h _ (hx b hb)
theorem head_ne {p : Int → Bool} {x : List UInt8} (h : headB p x = true) : x ≠ [] := by
  rintro rfl
  exact absurd h (by simp [headB])
theorem name_kind {x : List UInt8} (h : nameL x = true) : kindL x = 1 := by
  have h0 := h
  unfold nameL at h0
  simp only [Bool.and_eq_true, Bool.not_eq_true'] at h0
  unfold kindL
  rw [if_neg (by rw [h0.1.2]; decide), if_pos h]
theorem name_good {x : List UInt8} (h : nameL x = true) : LexQ.Good (kindL x) x := by
  have h0 := h
  unfold nameL at h0
  simp only [Bool.and_eq_true, Bool.not_eq_true'] at h0
  exact good_run (head_ne h0.1.1.2) (all_mono (fun n hn => by unfold nmB at hn; unfold ruB; simp only [Bool.or_eq_true] at hn ⊢; rcases hn with (hn | hn) | hn <;> simp [hn]) h0.2) (by rw [name_kind h]; decide)
theorem name_text {x : List UInt8} (h : nameL x = true) : x ≠ [105, 102] ∧ x ≠ [97, 110, 100] ∧ x ≠ [110, 111, 116] ∧ x ≠ [40] := by
  refine ⟨?_, ?_, ?_, ?_⟩ <;> (rintro rfl; exact absurd h (by decide))
theorem num_kind {x : List UInt8} (h : isNum x = true) : kindL x = 2 := by
  have h0 := h
  unfold isNum at h0
  simp only [Bool.and_eq_true, decide_eq_true_eq] at h0
  obtain ⟨⟨⟨h1, h2⟩, h3⟩, h4⟩ := h0
  cases x with
  | nil => simp at h1
  | cons b t =>
    have hb : dgB b.toNat = true := by simp only [allB, List.all_cons, Bool.and_eq_true] at h4; exact h4.1
    have hl : loB b.toNat = false := by
      unfold dgB at hb; unfold loB
      simp only [Bool.and_eq_true, decide_eq_true_eq] at hb
      rw [decide_eq_false (by omega), Bool.false_and]
    have hr : resB (b :: t) = false := by
      cases hc : resB (b :: t) with
      | false => rfl
      | true =>
        unfold resB at hc
        simp only [Bool.or_eq_true, beq_iff_eq] at hc
        rcases hc with (hc | hc) | hc <;> (injection hc with hc _; subst hc; exact absurd hb (by decide))
    have hn : nameL (b :: t) = false := by
      unfold nameL
      rw [show headB loB (b :: t) = loB b.toNat from rfl, hl]
      simp
    unfold kindL
    rw [if_neg (by simp [hr]), if_neg (by simp [hn]), if_pos h]
theorem num_good {x : List UInt8} (h : isNum x = true) : LexQ.Good (kindL x) x := by
  have h0 := h
  unfold isNum at h0
  simp only [Bool.and_eq_true, decide_eq_true_eq] at h0
  exact good_run (by rintro rfl; simp at h0) (all_mono (fun n hn => by unfold ruB; simp [hn]) h0.2) (by rw [num_kind h]; decide)
theorem var_kind {x : List UInt8} (h : varL x = true) : kindL x = 3 := by
  have h0 := h
  unfold varL at h0
  simp only [Bool.and_eq_true, decide_eq_true_eq] at h0
  obtain ⟨⟨h1, h2⟩, h3⟩ := h0
  cases x with
  | nil => exact absurd rfl (head_ne h2)
  | cons b t =>
    have hb : upB b.toNat = true := h2
    have hb' := hb
    unfold upB at hb'
    simp only [Bool.and_eq_true, decide_eq_true_eq] at hb'
    have hl : loB b.toNat = false := by
      unfold loB
      rw [decide_eq_false (by omega), Bool.false_and]
    have hd : dgB b.toNat = false := by
      unfold dgB
      rw [decide_eq_false (p := ((b.toNat : Int) ≤ 57)) (by omega), Bool.and_false]
    have hr : resB (b :: t) = false := by
      cases hc : resB (b :: t) with
      | false => rfl
      | true =>
        unfold resB at hc
        simp only [Bool.or_eq_true, beq_iff_eq] at hc
        rcases hc with (hc | hc) | hc <;> (injection hc with hc _; subst hc; exact absurd hb (by decide))
    have hn : nameL (b :: t) = false := by
      unfold nameL
      rw [show headB loB (b :: t) = loB b.toNat from rfl, hl]
      simp
    have hi : isNum (b :: t) = false := by
      unfold isNum allB
      rw [List.all_cons, hd]
      simp
    unfold kindL
    rw [if_neg (by simp [hr]), if_neg (by simp [hn]), if_neg (by simp [hi]), if_pos h]
theorem var_good {x : List UInt8} (h : varL x = true) : LexQ.Good (kindL x) x := by
  have h0 := h
  unfold varL at h0
  simp only [Bool.and_eq_true, decide_eq_true_eq] at h0
  exact good_run (head_ne h0.1.2) (all_mono (fun n hn => by unfold vrB at hn; unfold ruB; simp only [Bool.or_eq_true] at hn ⊢; rcases hn with (hn | hn) | hn <;> simp [hn]) h0.2) (by rw [var_kind h]; decide)
/-- A name, a number or a variable. -/
theorem leaf_good {n : ByteArray} (h : (conB n || (!false && varB n)) = true) : LexQ.Good (kindL n.data.toList) n.data.toList ∧ (kindL n.data.toList = 1 ∨ kindL n.data.toList = 2 ∨ kindL n.data.toList = 3) := by
  simp only [Bool.not_false, Bool.true_and, Bool.or_eq_true] at h
  rcases h with h | h
  · unfold conB at h
    rw [Bool.or_eq_true] at h
    rcases h with h | h
    · exact ⟨num_good h, Or.inr (Or.inl (num_kind h))⟩
    · exact ⟨name_good h, Or.inl (name_kind h)⟩
  · exact ⟨var_good h, Or.inr (Or.inr (var_kind h))⟩
mutual
def tokT : Tm → List Wt
  | .mk n l => (kindL n.data.toList, n.data.toList) :: (if l.isEmpty then [] else (4, [40]) :: ((tokL l).drop 1 ++ [(4, [41])]))
def tokL : List Tm → List Wt
  | [] => []
  | t :: l => (4, [44]) :: (tokT t ++ tokL l)
end
theorem lx_args {d : Nat} (ih : ∀ t, validT false d t = true → ∀ tail ws, stops ruB tail = true → Lx tail ws → Lx (textT t ++ tail) (tokT t ++ ws)) :
    ∀ l : List Tm, (∀ t ∈ l, validT false d t = true) → ∀ tail ws, stops ruB tail = true → Lx tail ws → Lx (tailT l ++ tail) (tokL l ++ ws) ∧ stops ruB (tailT l ++ tail) = true
  | [], _, tail, ws, hs, h => ⟨by simpa [tailT, tokL] using h, by simpa [tailT] using hs⟩
  | t :: l, hv, tail, ws, hs, h => by
    obtain ⟨h1, h2⟩ := lx_args ih l (fun x hx => hv x (by simp [hx])) tail ws hs h
    have h3 := ih t (hv t (by simp)) _ _ h2 h1
    have e1 : tailT (t :: l) ++ tail = 44 :: (textT t ++ (tailT l ++ tail)) := by simp [tailT]
    have e2 : tokL (t :: l) ++ ws = (4, [44]) :: (tokT t ++ (tokL l ++ ws)) := by simp [tokL]
    rw [e1, e2]
    exact ⟨lx_sym (by decide) (by decide) (by decide) h3, rfl⟩
theorem lx_term : ∀ (d : Nat) (t : Tm), validT false d t = true → ∀ tail ws, stops ruB tail = true → Lx tail ws → Lx (textT t ++ tail) (tokT t ++ ws)
  | 0, t, h => by cases t; simp [validT] at h
  | d + 1, .mk n l, h => fun tail ws hs hl => by
    by_cases he : l.isEmpty = true
    · rw [validT, if_pos he] at h
      have := lx_word (leaf_good h).1 hs hl
      rw [textT, tokT, if_pos he, if_pos he]
      simpa using this
    · rw [validT, if_neg he] at h
      simp only [Bool.and_eq_true, decide_eq_true_eq, List.all_eq_true] at h
      obtain ⟨⟨h1, h2⟩, h3⟩ := h
      cases l with
      | nil => exact absurd rfl he
      | cons a r =>
        have k1 : Lx (41 :: tail) ((4, [41]) :: ws) := lx_sym (by decide) (by decide) (by decide) hl
        obtain ⟨k2, k3⟩ := lx_args (lx_term d) r (fun x hx => h3 x (by simp [hx])) (41 :: tail) ((4, [41]) :: ws) rfl k1
        have k4 := lx_term d a (h3 a (by simp)) _ _ k3 k2
        have k5 : Lx (40 :: (textT a ++ (tailT r ++ 41 :: tail))) ((4, [40]) :: (tokT a ++ (tokL r ++ (4, [41]) :: ws))) := lx_sym (by decide) (by decide) (by decide) k4
        have k6 := lx_word (name_good h2) (show stops ruB (40 :: (textT a ++ (tailT r ++ 41 :: tail))) = true from rfl) k5
        rw [textT, tokT, if_neg he, if_neg he]
        have e1 : n.data.toList ++ 40 :: ((tailT (a :: r)).drop 1 ++ [41]) ++ tail = n.data.toList ++ (40 :: (textT a ++ (tailT r ++ 41 :: tail))) := by simp [tailT]
        have e2 : (kindL n.data.toList, n.data.toList) :: ((4, [40]) :: ((tokL (a :: r)).drop 1 ++ [(4, [41])])) ++ ws = (kindL n.data.toList, n.data.toList) :: ((4, [40]) :: (tokT a ++ (tokL r ++ (4, [41]) :: ws))) := by simp [tokL]
        rw [e1, e2]
        exact k6
def litTok (x : Lt) : List Wt := (if x.1 then [(5, [110, 111, 116])] else []) ++ tokT x.2
def litsTok (l : List Lt) : List Wt := l.flatMap fun x => (5, [97, 110, 100]) :: litTok x
def bodyTok : List Lt → List Wt
  | [] => []
  | x :: l => litTok x ++ litsTok l
def ruleTok (r : Rl) : List Wt := tokT r.1 ++ ((if r.2.isEmpty then [] else (5, [105, 102]) :: bodyTok r.2) ++ [(4, [46])])
theorem res_good {x : List UInt8} (h : resB x = true) : LexQ.Good 5 x := by
  have hk : kindL x = 5 := by unfold kindL; rw [if_pos h]
  rw [← hk]
  have h0 := h
  unfold resB at h0
  simp only [Bool.or_eq_true, beq_iff_eq] at h0
  refine good_run ?_ ?_ (by rw [hk]; decide)
  · rintro rfl; simp at h0
  · rcases h0 with (rfl | rfl) | rfl <;> decide
theorem at_valid {t : Tm} (h : atB t = true) : nameL t.nm.data.toList = true ∧ validT false 4 t = true := by
  unfold atB at h
  rwa [Bool.and_eq_true] at h
theorem lx_lit {x : Lt} (hv : atB x.2 = true) {tail : List UInt8} {ws : List Wt} (hs : stops ruB tail = true) (h : Lx tail ws) : Lx (litX x ++ tail) (litTok x ++ ws) := by
  have h1 := lx_term 4 x.2 (at_valid hv).2 tail ws hs h
  unfold litX litTok
  by_cases hn : x.1 = true
  · rw [if_pos hn, if_pos hn]
    have h2 : Lx (32 :: (textT x.2 ++ tail)) (tokT x.2 ++ ws) := lx_blank (by decide) h1
    have h3 := lx_word (res_good (x := [110, 111, 116]) (by decide)) (show stops ruB (32 :: (textT x.2 ++ tail)) = true from rfl) h2
    simpa using h3
  · rw [if_neg hn, if_neg hn]
    simpa using h1
theorem lx_lits : ∀ l : List Lt, (∀ x ∈ l, atB x.2 = true) → ∀ (tail : List UInt8) (ws : List Wt), stops ruB tail = true → Lx tail ws →
    Lx (Lib.joinTail [32, 97, 110, 100, 32] (l.map litX) ++ tail) (litsTok l ++ ws) ∧ stops ruB (Lib.joinTail [32, 97, 110, 100, 32] (l.map litX) ++ tail) = true
  | [], _, tail, ws, hs, h => ⟨by simpa [Lib.joinTail, litsTok] using h, by simpa [Lib.joinTail] using hs⟩
  | x :: l, hv, tail, ws, hs, h => by
    obtain ⟨h1, h2⟩ := lx_lits l (fun y hy => hv y (by simp [hy])) tail ws hs h
    have h3 := lx_lit (hv x (by simp)) h2 h1
    have h4 : Lx (32 :: (litX x ++ (Lib.joinTail [32, 97, 110, 100, 32] (l.map litX) ++ tail))) (litTok x ++ (litsTok l ++ ws)) := lx_blank (by decide) h3
    have h5 := lx_word (res_good (x := [97, 110, 100]) (by decide)) (show stops ruB (32 :: (litX x ++ (Lib.joinTail [32, 97, 110, 100, 32] (l.map litX) ++ tail))) = true from rfl) h4
    have h6 := lx_blank (b := 32) (by decide) h5
    have e1 : Lib.joinTail [32, 97, 110, 100, 32] ((x :: l).map litX) ++ tail = 32 :: ([97, 110, 100] ++ 32 :: (litX x ++ (Lib.joinTail [32, 97, 110, 100, 32] (l.map litX) ++ tail))) := by simp [Lib.joinTail]
    have e2 : litsTok (x :: l) ++ ws = (5, [97, 110, 100]) :: (litTok x ++ (litsTok l ++ ws)) := by simp [litsTok]
    rw [e1, e2]
    exact ⟨h6, rfl⟩
theorem lx_body {l : List Lt} (hv : ∀ x ∈ l, atB x.2 = true) {tail : List UInt8} {ws : List Wt} (hs : stops ruB tail = true) (h : Lx tail ws) : Lx (bodyX l ++ tail) (bodyTok l ++ ws) := by
  cases l with
  | nil => simpa [bodyX, bodyTok, Lib.join_nil] using h
  | cons x l =>
    obtain ⟨h1, h2⟩ := lx_lits l (fun y hy => hv y (by simp [hy])) tail ws hs h
    have h3 := lx_lit (hv x (by simp)) h2 h1
    unfold bodyX
    rw [List.map_cons, Lib.join_cons]
    simpa [bodyTok] using h3
theorem lx_rule {r : Rl} (hv : vlB r = true) {tail : List UInt8} {ws : List Wt} (h : Lx tail ws) : Lx (ruleX r ++ tail) (ruleTok r ++ ws) := by
  obtain ⟨h8, ha, hb⟩ := vl_parts hv
  have h1 : Lx (46 :: tail) ((4, [46]) :: ws) := lx_sym (by decide) (by decide) (by decide) h
  unfold ruleX ruleTok
  by_cases he : r.2.isEmpty = true
  · rw [if_pos he, if_pos he]
    simpa using lx_term 4 r.1 (at_valid ha).2 _ _ (show stops ruB (46 :: tail) = true from rfl) h1
  · rw [if_neg he, if_neg he]
    have h2 := lx_body hb (show stops ruB (46 :: tail) = true from rfl) h1
    have h3 : Lx (32 :: (bodyX r.2 ++ 46 :: tail)) (bodyTok r.2 ++ (4, [46]) :: ws) := lx_blank (by decide) h2
    have h4 := lx_word (res_good (x := [105, 102]) (by decide)) (show stops ruB (32 :: (bodyX r.2 ++ 46 :: tail)) = true from rfl) h3
    have h5 := lx_blank (b := 32) (by decide) h4
    simpa using lx_term 4 r.1 (at_valid ha).2 _ _ (show stops ruB (32 :: ([105, 102] ++ 32 :: (bodyX r.2 ++ 46 :: tail))) = true from rfl) h5
theorem desc_nil : descX [] = [] := rfl
theorem desc_cons (r : Rl) (l : List Rl) : descX (r :: l) = lineX r ++ descX l := by
  unfold descX
  rw [List.map_cons, Lib.join_cons]
  cases l with
  | nil => simp [Lib.joinTail, Lib.join_nil]
  | cons x l =>
    rw [List.map_cons, Lib.join_cons]
    simp [Lib.joinTail]
theorem desc_app : ∀ l m : List Rl, descX (l ++ m) = descX l ++ descX m
  | [], m => by simp [desc_nil]
  | r :: l, m => by rw [List.cons_append, desc_cons, desc_cons, desc_app l m, List.append_assoc]
def descTok (l : List Rl) : List Wt := l.flatMap ruleTok ++ [(0, [])]
theorem lx_desc : ∀ l : List Rl, (∀ r ∈ l, vlB r = true) → Lx (descX l) (descTok l)
  | [], _ => lx_nil
  | r :: l, hv => by
    have h1 := lx_desc l (fun x hx => hv x (by simp [hx]))
    have h2 : Lx (10 :: descX l) (descTok l) := lx_blank (by decide) h1
    have h3 := lx_rule (hv r (by simp)) h2
    rw [desc_cons]
    simpa [lineX, descTok] using h3
theorem lex_of {l : List UInt8} {ws : List Wt} (h : Lx l ws) (hl : l.length ≤ 16384) : (lexR l).2.2 = 0 ∧ ((lexR l).1).map kt = ws := by
  obtain ⟨ts, h1, h2⟩ := h l.length 0 (Nat.le_refl _)
  unfold lexR
  rw [if_neg (by omega), h1]
  exact ⟨rfl, h2⟩
/-! ### Parsed back -/
def kk (t : GTok) : Wt := (t.1, t.2.1.data.toList)
theorem kk_gt (ts : List Tok) : (ts.map gt).map kk = ts.map kt := by
  rw [List.map_map]
  refine List.map_congr_left fun t _ => ?_
  show (t.1, (LexG.bs t.2.1).data.toList) = (t.1, t.2.1)
  simp [LexG.bs]
theorem isB_kk (t : GTok) (s : ByteArray) : isB t s = ((kk t).2 == s.data.toList) := by
  unfold isB kk
  rw [ByteArray.toList_eq, ByteArray.toList_eq]
theorem isB_yes {t : GTok} {s : ByteArray} (h : (kk t).2 = s.data.toList) : isB t s = true := by rw [isB_kk, h]; simp
theorem isB_no {t : GTok} {s : ByteArray} (h : (kk t).2 ≠ s.data.toList) : ¬ isB t s = true := by rw [isB_kk]; simpa using h
theorem isB_no' {t : GTok} {s : ByteArray} (h : (kk t).2 ≠ s.data.toList) : isB t s = false := by rw [isB_kk]; simpa using h
/-- What stands next. -/
def nx (ws : List Wt) : List UInt8 := (ws.headD (0, [])).2
theorem kk_hd (ts : List GTok) : (kk (hd ts)).2 = nx (ts.map kk) := by cases ts <;> rfl
theorem take_one {ts : List GTok} {a : Wt} {ws : List Wt} (h : ts.map kk = a :: ws) : kk (hd ts) = a ∧ ts.tail.map kk = ws := by
  cases ts with
  | nil => simp at h
  | cons t r =>
    rw [List.map_cons] at h
    injection h with h1 h2
    exact ⟨h1, h2⟩
theorem fst_kk {t : GTok} {a : Wt} (h : kk t = a) : t.1 = a.1 := congrArg Prod.fst h
/-- These tokens are read as x, before what C allows. -/
def Rd {α : Type} (f : List GTok → Out α) (x : α) (a : List Wt) (C : List Wt → Prop) : Prop := ∀ ts ws, ts.map kk = a ++ ws → C ws → ∃ r, f ts = .good x r ∧ r.map kk = ws
def Cp (ws : List Wt) : Prop := nx ws ≠ [40]
theorem rd_more {d : Nat} (ih : ∀ t, validT false d t = true → Rd (termF d) t (tokT t) Cp) : ∀ (l : List Tm) (n : Nat) (acc : List Tm), (∀ t ∈ l, validT false d t = true) → acc.length + l.length ≤ 4 → l.length + 1 ≤ n →
    ∀ ts ws, ts.map kk = tokL l ++ (4, [41]) :: ws → ∃ r, moreF (termF d) n acc ts = .good (acc ++ l) r ∧ r.map kk = ws
  | [], n, acc, _, _, hn, ts, ws, h => by
    obtain ⟨m, rfl⟩ : ∃ m, n = m + 1 := ⟨n - 1, by simp at hn; omega⟩
    obtain ⟨h1, h2⟩ := take_one (a := (4, [41])) (ws := ws) h
    refine ⟨ts.tail, ?_, h2⟩
    rw [moreF, if_neg (isB_no (by rw [h1]; decide)), if_pos (isB_yes (by rw [h1]; rfl)), List.append_nil]
  | t :: l, n, acc, hv, h4, hn, ts, ws, h => by
    obtain ⟨m, rfl⟩ : ∃ m, n = m + 1 := ⟨n - 1, by simp at hn; omega⟩
    have e : tokL (t :: l) ++ (4, [41]) :: ws = (4, [44]) :: (tokT t ++ (tokL l ++ (4, [41]) :: ws)) := by simp [tokL]
    rw [e] at h
    obtain ⟨h1, h2⟩ := take_one h
    have hC : Cp (tokL l ++ (4, [41]) :: ws) := by
      unfold Cp nx
      cases l with
      | nil => simp [tokL]
      | cons b r => simp [tokL]
    obtain ⟨r, h3, h5⟩ := ih t (hv t (by simp)) _ _ h2 hC
    simp only [List.length_cons] at h4 hn
    have hne : (decide (acc.length = 4) && begB (hd ts.tail)) = false := by rw [decide_eq_false (by omega), Bool.false_and]
    obtain ⟨r2, h6, h7⟩ := rd_more ih l m (acc ++ [t]) (fun x hx => hv x (by simp [hx])) (by simp; omega) (by omega) r ws h5
    refine ⟨r2, ?_, h7⟩
    rw [moreF, if_pos (isB_yes (by rw [h1]; rfl)), hne, if_neg (by decide), h3]
    show moreF (termF d) m (acc ++ [t]) r = _
    rw [h6, List.append_assoc]
    rfl
theorem rd_term : ∀ (d : Nat) (t : Tm), validT false d t = true → Rd (termF d) t (tokT t) Cp
  | 0, t, h => by cases t; simp [validT] at h
  | d + 1, .mk n l, h => fun ts ws ht hC => by
    by_cases he : l.isEmpty = true
    · have hl : l = [] := by cases l <;> simp_all
      subst hl
      rw [validT, if_pos he] at h
      obtain ⟨_, hk⟩ := leaf_good h
      have ht' : ts.map kk = (kindL n.data.toList, n.data.toList) :: ws := by rw [ht, tokT]; rfl
      obtain ⟨h1, h2⟩ := take_one ht'
      have hn : (hd ts).2.1 = n := bytes_inj (congrArg Prod.snd h1)
      have h3 : (hd ts).1 = kindL n.data.toList := fst_kk h1
      have hb : ¬ begB (hd ts) = false := by
        unfold begB
        rw [h3]
        rcases hk with hk | hk | hk <;> rw [hk] <;> decide
      refine ⟨ts.tail, ?_, h2⟩
      rw [termF, if_neg hb, hn, h3]
      by_cases h4 : kindL n.data.toList = 1
      · rw [if_pos h4]
        unfold argsF
        rw [if_neg (isB_no (by rw [kk_hd, h2]; exact hC))]
        rfl
      · rw [if_neg h4]
    · rw [validT, if_neg he] at h
      simp only [Bool.and_eq_true, decide_eq_true_eq, List.all_eq_true] at h
      obtain ⟨⟨q1, q2⟩, q3⟩ := h
      cases l with
      | nil => exact absurd rfl he
      | cons a r =>
        have ht' : ts.map kk = (kindL n.data.toList, n.data.toList) :: ((4, [40]) :: (tokT a ++ (tokL r ++ (4, [41]) :: ws))) := by
          rw [ht, tokT, if_neg he]; simp [tokL]
        obtain ⟨h1, h2⟩ := take_one ht'
        obtain ⟨h5, h6⟩ := take_one h2
        have hn : (hd ts).2.1 = n := bytes_inj (congrArg Prod.snd h1)
        have h3 : (hd ts).1 = 1 := (fst_kk h1).trans (name_kind q2)
        have hb : ¬ begB (hd ts) = false := by
          unfold begB
          rw [h3]
          decide
        have hC2 : Cp (tokL r ++ (4, [41]) :: ws) := by
          unfold Cp nx
          cases r with
          | nil => simp [tokL]
          | cons b r => simp [tokL]
        obtain ⟨r1, h7, h8⟩ := rd_term d a (q3 a (by simp)) _ _ h6 hC2
        simp only [List.length_cons] at q1
        obtain ⟨r2, h9, h10⟩ := rd_more (rd_term d) r 4 [a] (fun x hx => q3 x (by simp [hx])) (by simp; omega) (by omega) r1 ws h8
        refine ⟨r2, ?_, h10⟩
        rw [termF, if_neg hb, hn, if_pos h3]
        unfold argsF
        rw [if_pos (isB_yes (by rw [h5]; rfl)), h7]
        show (moreF (termF d) 4 [a] r1).then _ = _
        rw [h9]
        rfl
theorem tok_hd (t : Tm) : ∃ r, tokT t = (kindL t.nm.data.toList, t.nm.data.toList) :: r := by
  cases t with
  | mk n l => exact ⟨_, by rw [tokT]; rfl⟩
theorem rd_atom {t : Tm} (h : atB t = true) : Rd atomF t (tokT t) Cp := fun ts ws ht hC => by
  obtain ⟨q1, q2⟩ := at_valid h
  obtain ⟨r, h1, h2⟩ := rd_term 4 t q2 ts ws ht hC
  obtain ⟨u, hu⟩ := tok_hd t
  rw [hu] at ht
  have h3 : (hd ts).1 = 1 := (fst_kk (take_one ht).1).trans (name_kind q1)
  refine ⟨r, ?_, h2⟩
  unfold atomF atomB
  rw [h3, if_pos (by decide), h1]
theorem rd_lit {x : Lt} (h : atB x.2 = true) : Rd litF x (litTok x) Cp := fun ts ws ht hC => by
  obtain ⟨b, t⟩ := x
  unfold litTok at ht
  dsimp only at ht h
  cases b with
  | true =>
    obtain ⟨h1, h2⟩ := take_one (a := (5, [110, 111, 116])) (ws := tokT t ++ ws) (by simpa using ht)
    obtain ⟨r, h3, h4⟩ := rd_atom h _ _ h2 hC
    refine ⟨r, ?_, h4⟩
    unfold litF
    rw [if_pos (isB_yes (by rw [h1]; rfl)), h3]
    rfl
  | false =>
    have ht' : ts.map kk = tokT t ++ ws := by simpa using ht
    obtain ⟨r, h3, h4⟩ := rd_atom h _ _ ht' hC
    obtain ⟨u, hu⟩ := tok_hd t
    rw [hu] at ht'
    have h1 := (take_one ht').1
    refine ⟨r, ?_, h4⟩
    unfold litF
    rw [if_neg (isB_no (by rw [h1]; exact (name_text (at_valid h).1).2.2.1)), h3]
    rfl
def Ca (ws : List Wt) : Prop := nx ws ≠ [40] ∧ nx ws ≠ [97, 110, 100]
theorem rd_lits : ∀ (l : List Lt) (n : Nat) (acc : List Lt), (∀ x ∈ l, atB x.2 = true) → acc.length + l.length ≤ 8 → l.length + 1 ≤ n →
    ∀ ts ws, ts.map kk = litsTok l ++ ws → Ca ws → ∃ r, litsF n acc ts = .good (acc ++ l) r ∧ r.map kk = ws
  | [], n, acc, _, _, hn, ts, ws, h, hC => by
    obtain ⟨m, rfl⟩ : ∃ m, n = m + 1 := ⟨n - 1, by simp at hn; omega⟩
    have h' : ts.map kk = ws := by simpa [litsTok] using h
    refine ⟨ts, ?_, h'⟩
    rw [litsF, if_neg (isB_no (by rw [kk_hd, h']; exact hC.2)), List.append_nil]
  | x :: l, n, acc, hv, h8, hn, ts, ws, h, hC => by
    obtain ⟨m, rfl⟩ : ∃ m, n = m + 1 := ⟨n - 1, by simp at hn; omega⟩
    have e : litsTok (x :: l) ++ ws = (5, [97, 110, 100]) :: (litTok x ++ (litsTok l ++ ws)) := by simp [litsTok]
    rw [e] at h
    obtain ⟨h1, h2⟩ := take_one h
    have hCp : Cp (litsTok l ++ ws) := by
      cases l with
      | nil => unfold Cp; simpa [litsTok] using hC.1
      | cons y r => unfold Cp nx; simp [litsTok]
    obtain ⟨r, h3, h5⟩ := rd_lit (hv x (by simp)) _ _ h2 hCp
    simp only [List.length_cons] at h8 hn
    have hne : (decide (acc.length = 8) && (atomB (hd ts.tail) || isB (hd ts.tail) sNot)) = false := by rw [decide_eq_false (by omega), Bool.false_and]
    obtain ⟨r2, h6, h7⟩ := rd_lits l m (acc ++ [x]) (fun y hy => hv y (by simp [hy])) (by simp; omega) (by omega) r ws h5 hC
    refine ⟨r2, ?_, h7⟩
    rw [litsF, if_pos (isB_yes (by rw [h1]; rfl)), hne, if_neg (by decide), h3]
    show litsF m (acc ++ [x]) r = _
    rw [h6, List.append_assoc]
    rfl
theorem rd_rule {x : Rl} (h : vlB x = true) : Rd ruleF x (ruleTok x) (fun _ => True) := fun ts ws ht _ => by
  obtain ⟨h8, ha, hb⟩ := vl_parts h
  obtain ⟨t, l⟩ := x
  dsimp only at h8 ha hb
  unfold ruleTok at ht
  dsimp only at ht
  cases l with
  | nil =>
    have ht' : ts.map kk = tokT t ++ ((4, [46]) :: ws) := by simpa using ht
    obtain ⟨r, h1, h2⟩ := rd_atom ha _ _ ht' (by unfold Cp nx; simp)
    obtain ⟨h3, h4⟩ := take_one h2
    refine ⟨r.tail, ?_, h4⟩
    unfold ruleF
    rw [h1]
    show (if isB (hd r) sIf = true then _ else (expF sDot r).then _) = _
    rw [if_neg (isB_no (by rw [h3]; decide))]
    unfold expF
    rw [if_pos (isB_yes (by rw [h3]; rfl))]
    rfl
  | cons x l =>
    have ht' : ts.map kk = tokT t ++ ((5, [105, 102]) :: (litTok x ++ (litsTok l ++ ((4, [46]) :: ws)))) := by simpa [bodyTok] using ht
    obtain ⟨r, h1, h2⟩ := rd_atom ha _ _ ht' (by unfold Cp nx; simp)
    obtain ⟨h3, h4⟩ := take_one h2
    have hCp : Cp (litsTok l ++ ((4, [46]) :: ws)) := by
      unfold Cp nx
      cases l <;> simp [litsTok]
    obtain ⟨r1, h5, h6⟩ := rd_lit (hb x (by simp)) _ _ h4 hCp
    simp only [List.length_cons] at h8
    obtain ⟨r2, h7, h9⟩ := rd_lits l 8 [x] (fun y hy => hb y (by simp [hy])) (by simp; omega) (by omega) r1 ((4, [46]) :: ws) h6 (by unfold Ca nx; simp)
    obtain ⟨h10, h11⟩ := take_one h9
    refine ⟨r2.tail, ?_, h11⟩
    unfold ruleF
    rw [h1]
    show (if isB (hd r) sIf = true then (bodyF r.tail).then _ else _) = _
    rw [if_pos (isB_yes (by rw [h3]; rfl))]
    unfold bodyF
    rw [h5]
    show (litsF 8 [x] r1).then _ = _
    rw [h7]
    show (expF sDot r2).then _ = _
    unfold expF
    rw [if_pos (isB_yes (by rw [h10]; rfl))]
    rfl
theorem rule_hd (x : Rl) : ∃ r, ruleTok x = (kindL x.1.nm.data.toList, x.1.nm.data.toList) :: r := by
  obtain ⟨u, hu⟩ := tok_hd x.1
  exact ⟨_, by unfold ruleTok; rw [hu]; rfl⟩
theorem rd_desc : ∀ (l : List Rl) (n : Nat) (acc : List Rl), (∀ r ∈ l, vlB r = true) → acc.length + l.length ≤ 128 → l.length + 1 ≤ n →
    ∀ ts, ts.map kk = descTok l → ∃ r, descF n acc ts = .good (acc ++ l) r ∧ r.map kk = [(0, [])]
  | [], n, acc, _, _, hn, ts, h => by
    obtain ⟨m, rfl⟩ : ∃ m, n = m + 1 := ⟨n - 1, by simp at hn; omega⟩
    have h' : ts.map kk = (0, []) :: [] := by simpa [descTok] using h
    refine ⟨ts, ?_, h'⟩
    rw [descF, if_pos (fst_kk (take_one h').1), List.append_nil]
  | x :: l, n, acc, hv, h8, hn, ts, h => by
    obtain ⟨m, rfl⟩ : ∃ m, n = m + 1 := ⟨n - 1, by simp at hn; omega⟩
    have e : descTok (x :: l) = ruleTok x ++ descTok l := by simp [descTok]
    rw [e] at h
    have hx := hv x (by simp)
    obtain ⟨r, h3, h5⟩ := rd_rule hx _ _ h trivial
    obtain ⟨u, hu⟩ := rule_hd x
    rw [hu] at h
    have hk : (hd ts).1 = 1 := (fst_kk (take_one h).1).trans (name_kind (at_valid (vl_parts hx).2.1).1)
    simp only [List.length_cons] at h8 hn
    have hne : (decide (acc.length = 128) && atomB (hd ts)) = false := by rw [decide_eq_false (by omega), Bool.false_and]
    obtain ⟨r2, h6, h7⟩ := rd_desc l m (acc ++ [x]) (fun y hy => hv y (by simp [hy])) (by simp; omega) (by omega) r h5
    refine ⟨r2, ?_, h7⟩
    rw [descF, if_neg (by rw [hk]; decide), hne, if_neg (by decide), h3]
    show descF m (acc ++ [x]) r = _
    rw [h6, List.append_assoc]
    rfl
/-- A DESCRIPTION IS PARSED FROM ITS TEXT. -/
theorem desc_back (l : List Rl) (hv : ∀ r ∈ l, vlB r = true) (hn : l.length ≤ 128) (hz : (descX l).length ≤ 16384) : wholeF (descF 129 []) (descX l) = .good l [] := by
  obtain ⟨h1, h2⟩ := lex_of (lx_desc l hv) hz
  obtain ⟨r, h3, h4⟩ := rd_desc l 129 [] hv (by simpa using hn) (by omega) ((lexR (descX l)).1.map gt) (by rw [kk_gt, h2])
  unfold wholeF
  rw [if_pos h1, h3]
  show (if (hd r).1 = 0 then Out.good ([] ++ l) [] else _) = _
  rw [if_pos (fst_kk (take_one h4).1), List.nil_append]
/-! ### Sizes -/
def mb : Nat → Nat
  | 0 => 0
  | d + 1 => 21 + 4 * mb d
theorem text_mb : ∀ (d : Nat) (t : Tm), validT false d t = true → (textT t).length ≤ mb d
  | 0, t, h => by cases t; simp [validT] at h
  | d + 1, .mk n l, h => by
    by_cases he : l.isEmpty = true
    · rw [validT, if_pos he] at h
      have := leaf_le h
      rw [textT, if_pos he, List.append_nil]
      unfold mb
      omega
    · rw [validT, if_neg he] at h
      simp only [Bool.and_eq_true, decide_eq_true_eq, List.all_eq_true] at h
      obtain ⟨⟨h1, h2⟩, h3⟩ := h
      have hn := name_le h2
      have ht := tail_le (mb d) l (fun t ht => text_mb d t (h3 t ht))
      have hm := Nat.mul_le_mul_right (mb d + 1) h1
      have hp : 1 ≤ (tailT l).length := by
        cases l with
        | nil => exact absurd rfl he
        | cons a r => simp [tailT]
      rw [textT, if_neg he, List.length_append, List.length_cons, List.length_append, List.length_drop]
      unfold mb
      simp only [List.length_cons, List.length_nil]
      omega
theorem at_mb {t : Tm} (h : atB t = true) : (textT t).length ≤ 1785 := text_mb 4 t (at_valid h).2
theorem rule_mb {r : Rl} (h : vlB r = true) : (ruleX r).length ≤ 16384 := by
  obtain ⟨h1, h2, h3⟩ := vl_parts h
  have h4 := at_mb h2
  have h5 : (bodyX r.2).length ≤ 8 * 1789 + 5 * 7 := by
    unfold bodyX
    have hl : ∀ x ∈ r.2.map litX, x.length ≤ 1789 := fun x hx => by
      obtain ⟨y, hy, rfl⟩ := List.mem_map.1 hx
      have := at_mb (h3 y hy)
      unfold litX
      rw [List.length_append]
      split <;> simp <;> omega
    have hs := lens_le 1789 (r.2.map litX) hl
    cases hr : r.2.map litX with
    | nil => simp [Lib.join_nil]
    | cons x q =>
      rw [hr] at hs
      have e : (x :: q).length = r.2.length := by rw [← hr, List.length_map]
      rw [Lib.join_length]
      rw [e] at hs
      simp only [List.length_cons, List.length_nil] at e ⊢
      have := Nat.mul_le_mul_right 1789 h1
      omega
  unfold ruleX
  rw [List.length_append, List.length_append]
  split
  · simp; omega
  · rw [List.length_append]; simp only [List.length_cons, List.length_nil]; omega
/-- A RULE IS PARSED FROM ITS TEXT. -/
theorem rule_back (x : Rl) (hv : vlB x = true) : wholeF ruleF (ruleX x) = .good x [] := by
  have hL : Lx (ruleX x) (ruleTok x ++ [(0, [])]) := by simpa using lx_rule hv lx_nil
  obtain ⟨h1, h2⟩ := lex_of hL (rule_mb hv)
  obtain ⟨r, h3, h4⟩ := rd_rule hv ((lexR (ruleX x)).1.map gt) [(0, [])] (by rw [kk_gt, h2]) trivial
  unfold wholeF
  rw [if_pos h1, h3]
  show (if (hd r).1 = 0 then Out.good x [] else _) = _
  rw [if_pos (fst_kk (take_one h4).1)]
end PriR
end Go.Proofs.YtfdpelokiljigaaDoor
