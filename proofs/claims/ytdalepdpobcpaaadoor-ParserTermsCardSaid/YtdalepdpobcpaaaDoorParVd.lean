/- What the plain parser returns is valid: names, depths, numbers of arguments, literals. No conditions. -/
import Derived.Test.YtdalepdpobcpaaaDoorParN
import Derived.Test.YtdalepdpobcpaaaDoorParLn
import Derived.Test.YtdalepdpobcpaaaDoorLexQ
namespace Go.Proofs.YtdalepdpobcpaaaDoor
open Go Go.RowKit
namespace ParVd
open Kit LexM TermM LexE LexF LexG LexP LexQ ParM ParV ParN ParLn
def Tk1 (t : GTok) : Prop := (t.1 = 1 → nameB t.2.1 = true) ∧ (t.1 = 2 → numB t.2.1 = true) ∧ (t.1 = 3 → varB t.2.1 = true)
def TkOk (ts : List GTok) : Prop := ∀ t ∈ ts, Tk1 t
theorem TkOk.hd {ts : List GTok} (h : TkOk ts) : Tk1 (hd ts) := by
  cases ts with
  | nil => exact ⟨fun e => absurd e (by decide), fun e => absurd e (by decide), fun e => absurd e (by decide)⟩
  | cons a r => exact h a (by simp)
theorem TkOk.drop {ts : List GTok} (h : TkOk ts) (n : Nat) : TkOk (ts.drop n) := fun t ht => h t (List.mem_of_mem_drop ht)
theorem TkOk.tail {ts : List GTok} (h : TkOk ts) : TkOk ts.tail := fun t ht => h t (List.mem_of_mem_tail ht)
theorem loc_tk {α : Type} {f : List GTok → Out α} (hf : Loc1 f) {ts : List GTok} {x : α} {r : List GTok} (h : f ts = .good x r) (hk : TkOk ts) : TkOk r := by
  obtain ⟨n, rfl, _⟩ := hf ts x r h
  exact hk.drop n
theorem good_kind {k : Int} {x : List UInt8} (h : LexQ.Good k x) : k = 4 ∨ k = kindL x := by
  obtain ⟨h0, hne, hp⟩ := h
  have h1 := hp [] rfl
  rw [List.append_nil] at h1
  cases x with
  | nil => exact absurd rfl hne
  | cons b l =>
    rw [piece_cons] at h1
    split at h1
    · exact absurd (congrArg Prod.fst h1).symm h0
    · split at h1
      · exact absurd (congrArg Prod.fst h1).symm h0
      · split at h1
        · exact Or.inl (congrArg Prod.fst h1).symm
        · split at h1
          · have h2 := congrArg Prod.fst h1
            have h3 := congrArg (fun p : Int × Nat × Int => p.2.1) h1
            dsimp only at h2 h3
            rw [h3, List.take_length] at h2
            exact Or.inr h2.symm
          · exact absurd (congrArg Prod.fst h1).symm h0
theorem kind_1 {x : List UInt8} (h : kindL x = 1) : nameL x = true := by
  unfold kindL at h
  split at h
  · cases h
  · split at h
    · assumption
    · split at h
      · cases h
      · split at h <;> cases h
theorem kind_2 {x : List UInt8} (h : kindL x = 2) : isNum x = true := by
  unfold kindL at h
  split at h
  · cases h
  · split at h
    · cases h
    · split at h
      · assumption
      · split at h <;> cases h
theorem kind_3 {x : List UInt8} (h : kindL x = 3) : varL x = true := by
  unfold kindL at h
  split at h
  · cases h
  · split at h
    · cases h
    · split at h
      · cases h
      · split at h
        · assumption
        · cases h
theorem bs_toL (l : List UInt8) : (bs l).data.toList = l := by simp [bs]
theorem lex_tk {l : List UInt8} (h : (lexR l).2.2 = 0) : TkOk ((lexR l).1.map gt) := by
  unfold lexR at h ⊢
  split at h
  · cases h
  · rename_i c
    rw [if_neg c]
    obtain ⟨xs, e, g, _⟩ := lexF_good _ _ _ h
    rw [e]
    intro t ht
    obtain ⟨u, hu, rfl⟩ := List.mem_map.1 ht
    rcases List.mem_append.1 hu with hu | hu
    · have hg := good_kind (g u hu)
      show Tk1 (u.1, bs u.2.1, (u.2.2 : Int))
      refine ⟨fun e => ?_, fun e => ?_, fun e => ?_⟩
      · have e : u.1 = 1 := e
        show nameL (bs u.2.1).data.toList = true
        rw [bs_toL]
        rcases hg with hg | hg
        · omega
        · exact kind_1 (hg.symm.trans e)
      · have e : u.1 = 2 := e
        show isNum (bs u.2.1).data.toList = true
        rw [bs_toL]
        rcases hg with hg | hg
        · omega
        · exact kind_2 (hg.symm.trans e)
      · have e : u.1 = 3 := e
        show varL (bs u.2.1).data.toList = true
        rw [bs_toL]
        rcases hg with hg | hg
        · omega
        · exact kind_3 (hg.symm.trans e)
    · obtain rfl := List.mem_singleton.1 hu
      exact ⟨fun e => absurd e (by show ¬ (0 : Int) = 1; decide), fun e => absurd e (by show ¬ (0 : Int) = 2; decide), fun e => absurd e (by show ¬ (0 : Int) = 3; decide)⟩
theorem more_ok (f : List GTok → Out Tm) (P : Tm → Prop) (hl1 : Loc1 f) (hf : ∀ ts x r, f ts = .good x r → TkOk ts → P x) (hb : ∀ ts, begB (hd ts) = false → ∃ a e, f ts = .bad a e) :
    ∀ (n : Nat) (l : List Tm) (ts : List GTok) (l' : List Tm) (r : List GTok), l.length ≤ 4 → 1 ≤ l.length → (∀ x ∈ l, P x) → moreF f n l ts = .good l' r → TkOk ts → (l'.length ≤ 4 ∧ 1 ≤ l'.length) ∧ ∀ x ∈ l', P x
  | 0, _, _, _, _, _, _, _, h, _ => by cases h
  | n + 1, l, ts, l', r, h4, hp1, hp, h, hk => by
    rw [moreF] at h
    split at h
    · split at h
      · cases h
      · rename_i c2
        cases hx : f ts.tail with
        | bad a e => rw [hx] at h; cases h
        | good x r1 =>
          rw [hx] at h
          have h' : moreF f n (l ++ [x]) r1 = .good l' r := h
          refine more_ok f P hl1 hf hb n (l ++ [x]) r1 l' r ?_ (by simp) (fun y hy => ?_) h' (loc_tk hl1 hx hk.tail)
          · rcases Nat.lt_or_ge l.length 4 with h5 | h5
            · simp; omega
            · exfalso
              have h6 : l.length = 4 := by omega
              have hbg : begB (hd ts.tail) = false := by
                cases hc : begB (hd ts.tail) with
                | false => rfl
                | true => exact absurd (by simp [h6, hc]) c2
              obtain ⟨a, e, he⟩ := hb _ hbg
              rw [he] at hx
              cases hx
          · rcases List.mem_append.1 hy with hy | hy
            · exact hp y hy
            · obtain rfl := List.mem_singleton.1 hy
              exact hf _ _ _ hx hk.tail
    · split at h
      · cases h
        exact ⟨⟨h4, hp1⟩, hp⟩
      · cases h
theorem term_ok : ∀ (d : Nat) (ts : List GTok) (x : Tm) (r : List GTok), termF d ts = .good x r → TkOk ts → validT false d x = true ∧ ((hd ts).1 = 1 → nameB x.nm = true)
  | 0, ts, x, r, h, _ => by
    rw [termF] at h
    split at h <;> cases h
  | d + 1, ts, x, r, h, hk => by
    rw [termF] at h
    obtain ⟨k1, k2, k3⟩ := hk.hd
    split at h
    · cases h
    · rename_i c1
      split at h
      · rename_i c2
        cases ha : argsF (termF d) ts.tail with
        | bad a e => rw [ha] at h; cases h
        | good l r1 =>
          rw [ha] at h
          cases h
          refine ⟨?_, fun _ => k1 c2⟩
          unfold argsF at ha
          split at ha
          · cases ht : termF d ts.tail.tail with
            | bad a e => rw [ht] at ha; cases ha
            | good t r2 =>
              rw [ht] at ha
              have ha' : moreF (termF d) 4 [t] r2 = .good l r := ha
              obtain ⟨⟨g1, g2⟩, g3⟩ := more_ok (termF d) (fun x => validT false d x = true) (loc_term d) (fun ts x r h hk => (term_ok d ts x r h hk).1) (term_bad d) 4 [t] r2 l r (by simp) (by simp)
                (fun y hy => by obtain rfl := List.mem_singleton.1 hy; exact (term_ok d _ _ _ ht hk.tail.tail).1) ha' (loc_tk (loc_term d) ht hk.tail.tail)
              have hne : l.isEmpty = false := by cases l with
                | nil => simp at g2
                | cons _ _ => rfl
              rw [validT, hne]
              simp only [Bool.false_eq_true, if_false, Bool.and_eq_true, decide_eq_true_iff, List.all_eq_true]
              exact ⟨⟨g1, k1 c2⟩, g3⟩
          · cases ha
            rw [validT]
            simp only [List.isEmpty_nil, if_true]
            unfold conB
            rw [k1 c2]
            simp
      · rename_i c2
        cases h
        refine ⟨?_, fun e => absurd e c2⟩
        rw [validT]
        simp only [List.isEmpty_nil, if_true]
        unfold conB
        have hbg : begB (hd ts) = true := by
          cases hc : begB (hd ts) with
          | true => rfl
          | false => exact absurd hc c1
        unfold begB at hbg
        simp only [Bool.or_eq_true, beq_iff_eq] at hbg
        rcases hbg with e | e | e
        · exact absurd e c2
        · rw [k2 e]; simp
        · rw [k3 e]; simp
def AtOk (t : Tm) : Prop := validT false 4 t = true ∧ nameB t.nm = true
theorem atom_ok {ts : List GTok} {x : Tm} {r : List GTok} (h : atomF ts = .good x r) (hk : TkOk ts) : AtOk x := by
  unfold atomF at h
  split at h
  · rename_i c
    obtain ⟨h1, h2⟩ := term_ok 4 ts x r h hk
    exact ⟨h1, h2 (by unfold atomB at c; simpa using c)⟩
  · cases h
theorem lit_ok {ts : List GTok} {x : Lt} {r : List GTok} (h : litF ts = .good x r) (hk : TkOk ts) : AtOk x.2 := by
  unfold litF at h
  split at h
  · cases ha : atomF ts.tail with
    | bad a e => rw [ha] at h; cases h
    | good t r1 => rw [ha] at h; cases h; exact atom_ok ha hk.tail
  · cases ha : atomF ts with
    | bad a e => rw [ha] at h; cases h
    | good t r1 => rw [ha] at h; cases h; exact atom_ok ha hk
theorem lits_ok : ∀ (n : Nat) (l : List Lt) (ts : List GTok) (l' : List Lt) (r : List GTok), l.length ≤ 8 → (∀ x ∈ l, AtOk x.2) → litsF n l ts = .good l' r → TkOk ts → l'.length ≤ 8 ∧ ∀ x ∈ l', AtOk x.2
  | 0, _, _, _, _, _, _, h, _ => by cases h
  | n + 1, l, ts, l', r, h8, hp, h, hk => by
    rw [litsF] at h
    split at h
    · split at h
      · cases h
      · rename_i c2
        cases hx : litF ts.tail with
        | bad a e => rw [hx] at h; cases h
        | good x r1 =>
          rw [hx] at h
          have h' : litsF n (l ++ [x]) r1 = .good l' r := h
          refine lits_ok n (l ++ [x]) r1 l' r ?_ (fun y hy => ?_) h' (loc_tk loc_lit hx hk.tail)
          · rcases Nat.lt_or_ge l.length 8 with h5 | h5
            · simp; omega
            · exfalso
              have h6 : l.length = 8 := by omega
              have hbg : (atomB (hd ts.tail) || isB (hd ts.tail) sNot) = false := by
                cases hc : (atomB (hd ts.tail) || isB (hd ts.tail) sNot) with
                | false => rfl
                | true => exact absurd (by simp only [h6, hc]; decide) c2
              obtain ⟨h1, h2⟩ := Bool.or_eq_false_iff.1 hbg
              obtain ⟨a, e, he⟩ := atom_bad h1
              unfold litF at hx
              rw [if_neg (by rw [h2]; decide), he] at hx
              cases hx
          · rcases List.mem_append.1 hy with hy | hy
            · exact hp y hy
            · obtain rfl := List.mem_singleton.1 hy
              exact lit_ok hx hk.tail
    · cases h
      exact ⟨h8, hp⟩
def RlOk (x : Rl) : Prop := AtOk x.1 ∧ x.2.length ≤ 8 ∧ ∀ b ∈ x.2, AtOk b.2
theorem rule_ok {ts : List GTok} {x : Rl} {r : List GTok} (h : ruleF ts = .good x r) (hk : TkOk ts) : RlOk x := by
  unfold ruleF at h
  cases ha : atomF ts with
  | bad a e => rw [ha] at h; cases h
  | good t r1 =>
    rw [ha] at h
    have k1 := loc_tk loc_atom ha hk
    change (if isB (hd r1) sIf = true then _ else _) = _ at h
    split at h
    · cases hb : bodyF r1.tail with
      | bad a e => rw [hb] at h; cases h
      | good b r2 =>
        rw [hb] at h
        change (expF sDot r2).then _ = _ at h
        cases he : expF sDot r2 with
        | bad a e => rw [he] at h; cases h
        | good _ r3 =>
          rw [he] at h
          cases h
          unfold bodyF at hb
          cases hl : litF r1.tail with
          | bad a e => rw [hl] at hb; cases hb
          | good y r4 =>
            rw [hl] at hb
            have hb' : litsF 8 [y] r4 = .good b r2 := hb
            obtain ⟨g1, g2⟩ := lits_ok 8 [y] r4 b r2 (by simp) (fun z hz => by obtain rfl := List.mem_singleton.1 hz; exact lit_ok hl k1.tail) hb' (loc_tk loc_lit hl k1.tail)
            exact ⟨atom_ok ha hk, g1, g2⟩
    · cases he : expF sDot r1 with
      | bad a e => rw [he] at h; cases h
      | good _ r3 =>
        rw [he] at h
        cases h
        exact ⟨atom_ok ha hk, by simp, fun b hb => by simp at hb⟩
theorem desc_ok : ∀ (n : Nat) (l : List Rl) (ts : List GTok) (l' : List Rl) (r : List GTok), (∀ x ∈ l, RlOk x) → descF n l ts = .good l' r → TkOk ts → ∀ x ∈ l', RlOk x
  | 0, _, _, _, _, _, h, _ => by cases h
  | n + 1, l, ts, l', r, hp, h, hk => by
    rw [descF] at h
    split at h
    · cases h; exact hp
    · split at h
      · cases h
      · cases hx : ruleF ts with
        | bad a e => rw [hx] at h; cases h
        | good x r1 =>
          rw [hx] at h
          have h' : descF n (l ++ [x]) r1 = .good l' r := h
          refine desc_ok n (l ++ [x]) r1 l' r (fun y hy => ?_) h' (loc_tk loc_rule.one hx hk)
          rcases List.mem_append.1 hy with hy | hy
          · exact hp y hy
          · obtain rfl := List.mem_singleton.1 hy
            exact rule_ok hx hk
/-- WHAT Parse RETURNS IS VALID. -/
theorem parse_ok {s : List UInt8} {l : List Rl} {r : List GTok} (h : wholeF (descF 129 []) s = .good l r) : ∀ x ∈ l, RlOk x := by
  obtain ⟨h0, r', h1, _⟩ := whole_good h
  exact desc_ok 129 [] _ l r' (fun x hx => by simp at hx) h1 (lex_tk h0)
end ParVd
end Go.Proofs.YtdalepdpobcpaaaDoor
