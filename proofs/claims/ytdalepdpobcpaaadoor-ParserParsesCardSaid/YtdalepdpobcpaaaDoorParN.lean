/- The plain parser: an error is 1 to 5; a rule and a description of one rule. No conditions. -/
import Derived.Test.YtdalepdpobcpaaaDoorParV
namespace Go.Proofs.YtdalepdpobcpaaaDoor
open Go Go.RowKit
namespace ParN
open Kit LexM TermM LexE LexF LexG LexP ParM ParV
/-- An error lies between 1 and 5. -/
def Nz {α : Type} (o : Out α) : Prop := ∀ a e, o = .bad a e → 1 ≤ e ∧ e ≤ 5
theorem Nz.good {α : Type} (x : α) (r : List GTok) : Nz (.good x r) := fun a e h => by cases h
theorem Nz.bad {α : Type} (a e : Int) (h : 1 ≤ e ∧ e ≤ 5) : Nz (.bad a e : Out α) := fun a' e' hh => by cases hh; exact h
theorem Nz.then {α β : Type} {o : Out α} {f : α → List GTok → Out β} (h : Nz o) (k : ∀ x r, o = .good x r → Nz (f x r)) : Nz (o.then f) := by
  cases o with
  | good x r => exact k x r rfl
  | bad a e => exact fun a' e' hh => by cases hh; exact h a e rfl
theorem nz_more (f : List GTok → Out Tm) (hf : ∀ ts, Nz (f ts)) (hb : ∀ ts, begB (hd ts) = false → ∃ a e, f ts = .bad a e) :
    ∀ (n : Nat) (l : List Tm) (ts : List GTok), l.length + n = 5 → 1 ≤ n → Nz (moreF f n l ts)
  | 0, _, _, _, h => absurd h (by omega)
  | n + 1, l, ts, hl, _ => by
    rw [moreF]
    split
    · split
      · exact Nz.bad _ _ (by decide)
      · rename_i hc
        refine (hf _).then fun t r hg => ?_
        by_cases hn : n = 0
        · have h4 : l.length = 4 := by omega
          have hbg : begB (hd ts.tail) = false := by
            cases h : begB (hd ts.tail) with
            | false => rfl
            | true => exact absurd (by simp [h4, h]) hc
          obtain ⟨a, e, he⟩ := hb _ hbg
          rw [he] at hg
          cases hg
        · exact nz_more f hf hb n _ r (by simp; omega) (by omega)
    · split
      · exact Nz.good _ _
      · exact Nz.bad _ _ (by decide)
theorem term_bad (d : Nat) (ts : List GTok) (h : begB (hd ts) = false) : ∃ a e, termF d ts = .bad a e := by
  cases d <;> (rw [termF, if_pos h]; exact ⟨_, _, rfl⟩)
theorem nz_term : ∀ (d : Nat) (ts : List GTok), Nz (termF d ts)
  | 0, ts => by
    rw [termF]
    split <;> exact Nz.bad _ _ (by decide)
  | d + 1, ts => by
    rw [termF]
    split
    · exact Nz.bad _ _ (by decide)
    · split
      · refine Nz.then ?_ fun _ _ _ => Nz.good _ _
        unfold argsF
        split
        · exact (nz_term d _).then fun t r _ => nz_more _ (nz_term d) (term_bad d) 4 [t] r rfl (by decide)
        · exact Nz.good _ _
      · exact Nz.good _ _
theorem nz_atom (ts : List GTok) : Nz (atomF ts) := by
  unfold atomF
  split
  · exact nz_term 4 ts
  · exact Nz.bad _ _ (by decide)
theorem nz_lit (ts : List GTok) : Nz (litF ts) := by
  unfold litF
  split <;> exact (nz_atom _).then fun _ _ _ => Nz.good _ _
theorem atom_bad {ts : List GTok} (h : atomB (hd ts) = false) : ∃ a e, atomF ts = .bad a e := by
  unfold atomF
  rw [if_neg (by rw [h]; decide)]
  exact ⟨_, _, rfl⟩
theorem nz_lits : ∀ (n : Nat) (l : List Lt) (ts : List GTok), l.length + n = 9 → 1 ≤ n → Nz (litsF n l ts)
  | 0, _, _, _, h => absurd h (by omega)
  | n + 1, l, ts, hl, _ => by
    rw [litsF]
    split
    · split
      · exact Nz.bad _ _ (by decide)
      · rename_i hc
        refine (nz_lit _).then fun t r hg => ?_
        by_cases hn : n = 0
        · have h8 : l.length = 8 := by omega
          have hb : (atomB (hd ts.tail) || isB (hd ts.tail) sNot) = false := by
            cases h : (atomB (hd ts.tail) || isB (hd ts.tail) sNot) with
            | false => rfl
            | true => exact absurd (by simp only [h8, h]; decide) hc
          obtain ⟨h1, h2⟩ := Bool.or_eq_false_iff.1 hb
          obtain ⟨a, e, he⟩ := atom_bad h1
          unfold litF at hg
          rw [if_neg (by rw [h2]; decide), he] at hg
          cases hg
        · exact nz_lits n _ r (by simp; omega) (by omega)
    · exact Nz.good _ _
theorem nz_exp (s : ByteArray) (ts : List GTok) : Nz (expF s ts) := by
  unfold expF
  split
  · exact Nz.good _ _
  · exact Nz.bad _ _ (by decide)
theorem nz_rule (ts : List GTok) : Nz (ruleF ts) := by
  unfold ruleF
  refine (nz_atom _).then fun h r _ => ?_
  split
  · refine Nz.then ?_ fun b r2 _ => (nz_exp _ _).then fun _ _ _ => Nz.good _ _
    unfold bodyF
    exact (nz_lit _).then fun x r _ => nz_lits 8 [x] r rfl (by decide)
  · exact (nz_exp _ _).then fun _ _ _ => Nz.good _ _
theorem rule_bad {ts : List GTok} (h : atomB (hd ts) = false) : ∃ a e, ruleF ts = .bad a e := by
  obtain ⟨a, e, he⟩ := atom_bad h
  unfold ruleF
  rw [he]
  exact ⟨_, _, rfl⟩
theorem nz_desc : ∀ (n : Nat) (l : List Rl) (ts : List GTok), l.length + n = 129 → 1 ≤ n → Nz (descF n l ts)
  | 0, _, _, _, h => absurd h (by omega)
  | n + 1, l, ts, hl, _ => by
    rw [descF]
    split
    · exact Nz.good _ _
    · split
      · exact Nz.bad _ _ (by decide)
      · rename_i hc
        refine (nz_rule _).then fun t r hg => ?_
        by_cases hn : n = 0
        · have h8 : l.length = 128 := by omega
          have hb : atomB (hd ts) = false := by
            cases h : atomB (hd ts) with
            | false => rfl
            | true => exact absurd (by simp [h8, h]) hc
          obtain ⟨a, e, he⟩ := rule_bad hb
          rw [he] at hg
          cases hg
        · exact nz_desc n _ r (by simp; omega) (by omega)
theorem piece_err (l : List UInt8) : 0 ≤ (pieceF l).2.2 ∧ (pieceF l).2.2 ≤ 5 := by
  cases l with
  | nil => exact ⟨by decide, by decide⟩
  | cons b t =>
    unfold pieceF
    dsimp only
    repeat' split
    all_goals (try dsimp only)
    all_goals first | exact ⟨by decide, by decide⟩ | (unfold kErr; split <;> exact ⟨by decide, by decide⟩)
theorem cat_err {t : List Tok} {r : Res} (h : 0 ≤ r.2.2 ∧ r.2.2 ≤ 5) : 0 ≤ (cat t r).2.2 ∧ (cat t r).2.2 ≤ 5 := by
  unfold cat; split
  · exact ⟨Int.le_refl 0, (by decide : (0 : Int) ≤ 5)⟩
  · exact h
theorem lexF_err : ∀ (f k : Nat) (l : List UInt8), 0 ≤ (lexF f k l).2.2 ∧ (lexF f k l).2.2 ≤ 5
  | 0, k, [] => ⟨Int.le_refl 0, (by decide : (0 : Int) ≤ 5)⟩
  | _ + 1, k, [] => ⟨Int.le_refl 0, (by decide : (0 : Int) ≤ 5)⟩
  | 0, k, b :: l => ⟨(by decide : (0 : Int) ≤ 1), (by decide : (1 : Int) ≤ 5)⟩
  | f + 1, k, b :: l => by
    rw [lexF]
    split
    · exact cat_err (lexF_err f _ _)
    · exact piece_err (b :: l)
theorem lexR_err (l : List UInt8) : 0 ≤ (lexR l).2.2 ∧ (lexR l).2.2 ≤ 5 := by
  unfold lexR; split
  · exact ⟨by decide, by decide⟩
  · exact lexF_err _ _ _
theorem nz_whole {α : Type} (f : List GTok → Out α) (hf : ∀ ts, Nz (f ts)) (l : List UInt8) : Nz (wholeF f l) := by
  unfold wholeF
  split
  · refine (hf _).then fun x r _ => ?_
    split
    · exact Nz.good _ _
    · exact Nz.bad _ _ (by decide)
  · rename_i h
    exact Nz.bad _ _ (by have := lexR_err l; omega)
/-- What a description leaves begins with what it had, and ends at the end. -/
theorem desc_more : ∀ (n : Nat) (l : List Rl) (ts : List GTok) (l' : List Rl) (r : List GTok), descF n l ts = .good l' r → (∃ m, l' = l ++ m) ∧ (hd r).1 = 0
  | 0, _, _, _, _, h => by cases h
  | n + 1, l, ts, l', r, h => by
    rw [descF] at h
    split at h
    · rename_i h0
      cases h
      exact ⟨⟨[], by simp⟩, h0⟩
    · split at h
      · cases h
      · cases hR : ruleF ts with
        | bad a e => rw [hR] at h; cases h
        | good x r2 =>
          rw [hR] at h
          obtain ⟨⟨m, hm⟩, h2⟩ := desc_more n (l ++ [x]) r2 l' r h
          exact ⟨⟨x :: m, by rw [hm, List.append_assoc]; rfl⟩, h2⟩
/-- A rule alone is the description of that one rule. -/
theorem one_of (l : List UInt8) (x : Rl) : wholeF ruleF l = .good x [] ↔ wholeF (descF 129 []) l = .good [x] [] := by
  unfold wholeF
  split
  · generalize (lexR l).1.map gt = T
    have hd0 : descF 129 [] T = if (hd T).1 = 0 then .good [] T else (ruleF T).then fun x r => descF 128 [x] r := by
      rw [descF]
      rfl
    rw [hd0]
    by_cases h0 : (hd T).1 = 0
    · obtain ⟨a, e, he⟩ := rule_bad (ts := T) (by unfold atomB; rw [h0]; rfl)
      rw [if_pos h0, he]
      show Out.bad a e = _ ↔ (if (hd T).1 = 0 then Out.good [] [] else _) = _
      rw [if_pos h0]
      constructor <;> intro h
      · cases h
      · injection h with h1 _; cases h1
    · rw [if_neg h0]
      cases hR : ruleF T with
      | bad a e => constructor <;> intro h <;> cases h
      | good y r =>
        show (if (hd r).1 = 0 then Out.good y [] else Out.bad (hd r).2.2 1) = Out.good x [] ↔ (descF 128 [y] r).then _ = _
        by_cases h1 : (hd r).1 = 0
        · have e1 : descF 128 [y] r = .good [y] r := by rw [descF, if_pos h1]
          rw [if_pos h1, e1]
          show _ ↔ (if (hd r).1 = 0 then Out.good [y] [] else _) = _
          rw [if_pos h1]
          constructor <;> intro h
          · injection h with h _; rw [h]
          · injection h with h _; injection h with h _; rw [h]
        · rw [if_neg h1]
          constructor <;> intro h
          · cases h
          · exfalso
            cases hD : descF 128 [y] r with
            | bad a e => rw [hD] at h; cases h
            | good l' r' =>
              rw [hD] at h
              obtain ⟨_, h2⟩ := desc_more _ _ _ _ _ hD
              have h3 : l' = [x] := by
                change (if (hd r').1 = 0 then Out.good l' [] else _) = _ at h
                rw [if_pos h2] at h
                injection h
              rw [descF, if_neg h1] at hD
              split at hD
              · cases hD
              · cases hR2 : ruleF r with
                | bad a e => rw [hR2] at hD; cases hD
                | good z r3 =>
                  rw [hR2] at hD
                  obtain ⟨⟨m, hm⟩, _⟩ := desc_more _ _ _ _ _ hD
                  rw [h3] at hm
                  have := congrArg List.length hm
                  simp at this
  · constructor <;> intro h <;> cases h
end ParN
end Go.Proofs.YtdalepdpobcpaaaDoor
