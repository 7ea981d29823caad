/- Printable rules with equal texts are equal. No conditions. -/
import Derived.Test.YtikkaiiinkeobaaGreatDoorGAA
import Derived.Test.YtikkaiiinkeobaaGreatDoorGAO
import Derived.Test.YtikkaiiinkeobaaGreatDoorGBE
namespace Go.Proofs.YtikkaiiinkeobaaGreatDoor
open Go
namespace NosT
open LexM TermM UniM UniK NorB NorC NorD
/-- None of the bytes that end names. -/
def okb (b : UInt8) : Prop := b ≠ 40 ∧ b ≠ 41 ∧ b ≠ 44 ∧ b ≠ 32 ∧ b ≠ 46
def okl (l : List UInt8) : Prop := ∀ b ∈ l, okb b
theorem ok_of {p : Int → Bool} (hp : ∀ b : UInt8, p b.toNat = true → okb b) {l : List UInt8} (h : allB p l = true) : okl l := by
  intro b hb
  unfold allB at h
  exact hp b (List.all_eq_true.1 h b hb)
theorem ok_nat {b : UInt8} (h : b.toNat ≠ 40 ∧ b.toNat ≠ 41 ∧ b.toNat ≠ 44 ∧ b.toNat ≠ 32 ∧ b.toNat ≠ 46) : okb b :=
  ⟨fun e => h.1 (by rw [e]; rfl), fun e => h.2.1 (by rw [e]; rfl), fun e => h.2.2.1 (by rw [e]; rfl), fun e => h.2.2.2.1 (by rw [e]; rfl), fun e => h.2.2.2.2 (by rw [e]; rfl)⟩
theorem ok_name {l : List UInt8} (h : nameL l = true) : okl l ∧ l.length ≤ 16 := by
  unfold nameL at h
  simp only [Bool.and_eq_true, decide_eq_true_eq] at h
  refine ⟨ok_of (p := nmB) (fun b hb => ok_nat ?_) h.2, h.1.1.1⟩
  unfold nmB loB dgB at hb
  simp at hb
  omega
theorem ok_var {l : List UInt8} (h : varL l = true) : okl l ∧ l.length ≤ 16 := by
  unfold varL at h
  simp only [Bool.and_eq_true, decide_eq_true_eq] at h
  refine ⟨ok_of (p := vrB) (fun b hb => ok_nat ?_) h.2, h.1.1⟩
  unfold vrB loB upB dgB at hb
  simp at hb
  omega
theorem ok_num {l : List UInt8} (h : isNum l = true) : okl l ∧ l.length ≤ 16 := by
  unfold isNum at h
  simp only [Bool.and_eq_true, decide_eq_true_eq] at h
  refine ⟨ok_of (p := dgB) (fun b hb => ok_nat ?_) h.2, by omega⟩
  unfold dgB at hb
  simp at hb
  omega
theorem valid_parts {g : Bool} {d : Nat} {n : ByteArray} {l : List Tm} (h : validT g (d + 1) (.mk n l) = true) : okl n.data.toList ∧ n.data.toList.length ≤ 16 ∧ ∀ t ∈ l, validT g d t = true := by
  simp only [validT] at h
  split at h
  · rename_i he
    have hl : l = [] := by simpa using he
    subst hl
    have hk : okl n.data.toList ∧ n.data.toList.length ≤ 16 := by
      unfold conB numB nameB varB at h
      simp only [Bool.or_eq_true, Bool.and_eq_true] at h
      rcases h with (h | h) | ⟨_, h⟩
      · exact ok_num h
      · exact ok_name h
      · exact ok_var h
    exact ⟨hk.1, hk.2, fun t ht => by simp at ht⟩
  · simp only [Bool.and_eq_true, decide_eq_true_eq] at h
    have hk := ok_name (l := n.data.toList) h.1.2
    exact ⟨hk.1, hk.2, fun t ht => List.all_eq_true.1 h.2 t ht⟩
/-- A rest that begins with a byte that ends names, or is nothing. -/
def stop (r : List UInt8) : Prop := ∀ b x, r = b :: x → b = 40 ∨ b = 41 ∨ b = 44 ∨ b = 32 ∨ b = 46
theorem split_name : ∀ (n m x y : List UInt8), okl n → okl m → stop x → stop y → n ++ x = m ++ y → n = m ∧ x = y
  | [], [], x, y, _, _, _, _, h => ⟨rfl, h⟩
  | [], b :: m, x, y, _, hm, hx, _, h => by
    have := hx b (m ++ y) (by simpa using h)
    have hb := hm b (by simp)
    unfold okb at hb
    rcases this with e | e | e | e | e <;> simp [e] at hb
  | a :: n, [], x, y, hn, _, _, hy, h => by
    have := hy a (n ++ x) (by simpa using h.symm)
    have hb := hn a (by simp)
    unfold okb at hb
    rcases this with e | e | e | e | e <;> simp [e] at hb
  | a :: n, b :: m, x, y, hn, hm, hx, hy, h => by
    simp only [List.cons_append, List.cons.injEq] at h
    obtain ⟨h1, h2⟩ := split_name n m x y (fun c hc => hn c (by simp [hc])) (fun c hc => hm c (by simp [hc])) hx hy h.2
    exact ⟨by rw [h.1, h1], h2⟩
/-- What may follow an argument: ',' or ')', or nothing. -/
def stopA (r : List UInt8) : Prop := ∀ b x, r = b :: x → b = 41 ∨ b = 44 ∨ b = 32 ∨ b = 46
theorem stop_of {r : List UInt8} (h : stopA r) : stop r := fun b x e => Or.inr (h b x e)
theorem stopA_tail (l : List Tm) (r : List UInt8) : stopA (tailT l ++ 41 :: r) := by
  intro b x e
  cases l with
  | nil => simp [tailT] at e; exact Or.inl e.1.symm
  | cons a l => simp [tailT] at e; exact Or.inr (Or.inl e.1.symm)
theorem text_inj (g : Bool) : ∀ (d : Nat) (a b : Tm) (r s : List UInt8), validT g d a = true → validT g d b = true → stopA r → stopA s → textT a ++ r = textT b ++ s → a = b ∧ r = s
  | 0, a, b, r, s, ha, _, _, _, _ => by simp [validT] at ha
  | d + 1, .mk n l, .mk m k, r, s, ha, hb, hr, hs, h => by
    obtain ⟨a1, _, a3⟩ := valid_parts ha
    obtain ⟨b1, _, b3⟩ := valid_parts hb
    simp only [textT, List.append_assoc] at h
    have args : ∀ (l k : List Tm) (r s : List UInt8), (∀ t ∈ l, validT g d t = true) → (∀ t ∈ k, validT g d t = true) → tailT l ++ 41 :: r = tailT k ++ 41 :: s → l = k ∧ r = s := by
      intro l
      induction l with
      | nil =>
        intro k r s _ _ h
        cases k with
        | nil => simp [tailT] at h; exact ⟨rfl, h⟩
        | cons b k => simp [tailT] at h
      | cons a l ih =>
        intro k r s hl hk h
        cases k with
        | nil => simp [tailT] at h
        | cons b k =>
          simp only [tailT, List.cons_append, List.append_assoc, List.cons.injEq, true_and] at h
          obtain ⟨h1, h2⟩ := text_inj g d a b _ _ (hl a (by simp)) (hk b (by simp)) (stopA_tail l r) (stopA_tail k s) h
          obtain ⟨h3, h4⟩ := ih k r s (fun t ht => hl t (by simp [ht])) (fun t ht => hk t (by simp [ht])) h2
          exact ⟨by rw [h1, h3], h4⟩
    have st : ∀ (l : List Tm) (r : List UInt8), stopA r → stop ((if l.isEmpty then [] else 40 :: ((tailT l).drop 1 ++ [41])) ++ r) := by
      intro l r hr b x e
      split at e
      · exact stop_of hr b x (by simpa using e)
      · simp at e; exact Or.inl e.1.symm
    obtain ⟨h1, h2⟩ := split_name _ _ _ _ a1 b1 (st l r hr) (st k s hs) h
    have hnm : n = m := bytes_inj h1
    subst hnm
    cases l with
    | nil =>
      cases k with
      | nil => simp at h2; exact ⟨rfl, h2⟩
      | cons b k =>
        simp at h2
        have := hr 40 _ h2
        simp at this
    | cons a l =>
      cases k with
      | nil =>
        simp at h2
        have := hs 40 _ h2.symm
        simp at this
      | cons b k =>
        simp [tailT] at h2
        obtain ⟨h3, h4⟩ := text_inj g d a b _ _ (a3 a (by simp)) (b3 b (by simp)) (stopA_tail l r) (stopA_tail k s) (by simpa using h2)
        obtain ⟨h5, h6⟩ := args l k r s (fun t ht => a3 t (by simp [ht])) (fun t ht => b3 t (by simp [ht])) h4
        exact ⟨by rw [h3, h5], h6⟩
theorem at_valid {t : Tm} (h : atB t = true) : nameL t.nm.data.toList = true ∧ validT false 4 t = true := by
  unfold atB at h
  simpa using h
theorem name_not : nameL [110, 111, 116] = false := by decide
theorem text_form (t : Tm) : ∃ r, textT t = t.nm.data.toList ++ r ∧ ∀ s, stopA s → stop (r ++ s) := by
  cases t with
  | mk n l =>
    refine ⟨if l.isEmpty then [] else 40 :: ((tailT l).drop 1 ++ [41]), rfl, fun s hs b x e => ?_⟩
    split at e
    · exact stop_of hs b x (by simpa using e)
    · simp at e; exact Or.inl e.1.symm
theorem not_text {t : Tm} (ht : atB t = true) {r s : List UInt8} (hr : stopA r) (h : textT t ++ r = [110, 111, 116, 32] ++ s) : False := by
  obtain ⟨h1, h2⟩ := at_valid ht
  obtain ⟨q, e, hq⟩ := text_form t
  rw [e, List.append_assoc] at h
  have := split_name t.nm.data.toList [110, 111, 116] (q ++ r) (32 :: s) (ok_name h1).1 (by intro b hb; simp at hb; rcases hb with rfl | rfl | rfl <;> simp [okb]) (hq r hr) (fun b x e => by simp at e; exact Or.inr (Or.inr (Or.inr (Or.inl e.1.symm)))) (by simpa using h)
  rw [this.1, name_not] at h1
  cases h1
theorem lit_inj {x y : Lt} (hx : atB x.2 = true) (hy : atB y.2 = true) {r s : List UInt8} (hr : stopA r) (hs : stopA s) (h : litX x ++ r = litX y ++ s) : x = y ∧ r = s := by
  obtain ⟨b, t⟩ := x
  obtain ⟨c, u⟩ := y
  unfold litX at h
  have same : textT t ++ r = textT u ++ s → t = u ∧ r = s := fun h => text_inj false 4 t u r s (at_valid hx).2 (at_valid hy).2 hr hs h
  cases b <;> cases c
  · obtain ⟨h1, h2⟩ := same (by simpa using h)
    exact ⟨by rw [h1], h2⟩
  · exact (not_text hx hr (s := textT u ++ s) (by simpa using h)).elim
  · exact (not_text hy hs (s := textT t ++ r) (by simpa using h.symm)).elim
  · obtain ⟨h1, h2⟩ := same (by simpa using h)
    exact ⟨by rw [h1], h2⟩
theorem tail_stop (l : List Lt) : stopA (Lib.joinTail [32, 97, 110, 100, 32] (l.map litX) ++ [46]) := by
  intro b x e
  cases l with
  | nil => simp [Lib.joinTail] at e; exact Or.inr (Or.inr (Or.inr e.1.symm))
  | cons a l => simp [Lib.joinTail] at e; exact Or.inr (Or.inr (Or.inl e.1.symm))
theorem tail_inj : ∀ (l m : List Lt), (∀ x ∈ l, atB x.2 = true) → (∀ x ∈ m, atB x.2 = true) → Lib.joinTail [32, 97, 110, 100, 32] (l.map litX) ++ [46] = Lib.joinTail [32, 97, 110, 100, 32] (m.map litX) ++ [46] → l = m
  | [], [], _, _, _ => rfl
  | [], y :: m, _, _, h => by simp [Lib.joinTail] at h
  | x :: l, [], _, _, h => by simp [Lib.joinTail] at h
  | x :: l, y :: m, hl, hm, h => by
    have h' : litX x ++ (Lib.joinTail [32, 97, 110, 100, 32] (l.map litX) ++ [46]) = litX y ++ (Lib.joinTail [32, 97, 110, 100, 32] (m.map litX) ++ [46]) := by simpa [Lib.joinTail] using h
    obtain ⟨h1, h2⟩ := lit_inj (hl x List.mem_cons_self) (hm y List.mem_cons_self) (tail_stop l) (tail_stop m) h'
    rw [h1, tail_inj l m (fun z hz => hl z (List.mem_cons_of_mem _ hz)) (fun z hz => hm z (List.mem_cons_of_mem _ hz)) h2]
theorem rule_inj {r s : Rl} (hr : vlB r = true) (hs : vlB s = true) (h : ruleX r = ruleX s) : r = s := by
  obtain ⟨t, l⟩ := r
  obtain ⟨u, m⟩ := s
  unfold vlB at hr hs
  simp only [Bool.and_eq_true, decide_eq_true_eq, List.all_eq_true] at hr hs
  unfold ruleX at h
  have st : ∀ l : List Lt, stopA ((if l.isEmpty then [] else [32, 105, 102, 32] ++ bodyX l) ++ [46]) := by
    intro l b x e
    cases l with
    | nil => simp at e; exact Or.inr (Or.inr (Or.inr e.1.symm))
    | cons a l => simp at e; exact Or.inr (Or.inr (Or.inl e.1.symm))
  obtain ⟨h1, h2⟩ := text_inj false 4 t u _ _ (at_valid hr.2.1).2 (at_valid hs.2.1).2 (st l) (st m) (by simpa using h)
  subst h1
  cases l with
  | nil =>
    cases m with
    | nil => rfl
    | cons y m => simp at h2
  | cons x l =>
    cases m with
    | nil => simp at h2
    | cons y m =>
      have h' : litX x ++ (Lib.joinTail [32, 97, 110, 100, 32] (l.map litX) ++ [46]) = litX y ++ (Lib.joinTail [32, 97, 110, 100, 32] (m.map litX) ++ [46]) := by
        simpa [bodyX, Lib.join_cons] using h2
      obtain ⟨h3, h4⟩ := lit_inj (hr.2.2 x List.mem_cons_self) (hs.2.2 y List.mem_cons_self) (tail_stop l) (tail_stop m) h'
      rw [h3, tail_inj l m (fun z hz => hr.2.2 z (List.mem_cons_of_mem _ hz)) (fun z hz => hs.2.2 z (List.mem_cons_of_mem _ hz)) h4]
end NosT
end Go.Proofs.YtikkaiiinkeobaaGreatDoor
