/- Terms as plain data: a tree of names; depth, size, leaves, validity, text, and the order of terms with its laws (total; 0 only for equal terms). No conditions. -/
import Derived.Test.YtihbnonbhelbmaaGreatDoorLexM
import Derived.Sort.Statements
import GoSem.Op.String
namespace Go.Proofs.YtihbnonbhelbmaaGreatDoor
open Go
namespace TermM
open LexM
inductive Tm where
  | mk : ByteArray → List Tm → Tm
instance : Inhabited Tm := ⟨.mk ⟨#[]⟩ []⟩
def Tm.nm : Tm → ByteArray
  | .mk n _ => n
def Tm.args : Tm → List Tm
  | .mk _ l => l
theorem Tm.eta : ∀ t : Tm, Tm.mk t.nm t.args = t
  | .mk _ _ => rfl
theorem Tm.ind {P : Tm → Prop} (h : ∀ n l, (∀ x ∈ l, P x) → P (.mk n l)) (t : Tm) : P t :=
  Tm.rec (motive_1 := P) (motive_2 := fun l => ∀ x ∈ l, P x) (fun n l ih => h n l ih) (fun x hx => by simp at hx)
    (fun a l ha hl x hx => by rcases List.mem_cons.1 hx with rfl | hx; exact ha; exact hl x hx) t
mutual
def depthT : Tm → Nat
  | .mk _ l => depthL l + 1
def depthL : List Tm → Nat
  | [] => 0
  | t :: l => max (depthT t) (depthL l)
end
mutual
def sizeT : Tm → Nat
  | .mk _ l => sizeL l + 1
def sizeL : List Tm → Nat
  | [] => 0
  | t :: l => sizeT t + sizeL l
end
mutual
def leavesT : Tm → List ByteArray
  | .mk n l => if l.isEmpty then [n] else leavesL l
def leavesL : List Tm → List ByteArray
  | [] => []
  | t :: l => leavesT t ++ leavesL l
end
mutual
def textT : Tm → List UInt8
  | .mk n l => n.data.toList ++ if l.isEmpty then [] else 40 :: ((tailT l).drop 1 ++ [41])
def tailT : List Tm → List UInt8
  | [] => []
  | t :: l => 44 :: textT t ++ tailT l
end
theorem depthL_app : ∀ a b, depthL (a ++ b) = max (depthL a) (depthL b)
  | [], b => by simp [depthL]
  | t :: a, b => by simp [depthL, depthL_app a b, Nat.max_assoc]
theorem sizeL_app : ∀ a b, sizeL (a ++ b) = sizeL a + sizeL b
  | [], b => by simp [sizeL]
  | t :: a, b => by simp [sizeL, sizeL_app a b, Nat.add_assoc]
theorem leavesL_app : ∀ a b, leavesL (a ++ b) = leavesL a ++ leavesL b
  | [], b => by simp [leavesL]
  | t :: a, b => by simp [leavesL, leavesL_app a b]
theorem tailT_app : ∀ a b, tailT (a ++ b) = tailT a ++ tailT b
  | [], b => by simp [tailT]
  | t :: a, b => by simp [tailT, tailT_app a b]
theorem take_get {α : Type} (l : List α) (k : Nat) (x : α) (h : l[k]? = some x) : l.take (k + 1) = l.take k ++ [x] := by
  obtain ⟨hk, rfl⟩ := List.getElem?_eq_some_iff.1 h
  rw [List.take_succ_eq_append_getElem hk]
def nameB (n : ByteArray) : Bool := nameL n.data.toList
def varB (n : ByteArray) : Bool := varL n.data.toList
def numB (n : ByteArray) : Bool := isNum n.data.toList
def conB (n : ByteArray) : Bool := numB n || nameB n
/-- Valid with at most d levels; if g, without variables. -/
def validT (g : Bool) : Nat → Tm → Bool
  | 0, _ => false
  | d + 1, .mk n l => if l.isEmpty then conB n || (!g && varB n) else decide (l.length ≤ 4) && nameB n && l.all (validT g d)
/-! ### The order -/
def thn (a b : Int) : Int := if a = 0 then b else a
def sg (a b : Int) : Int := if a < b then -1 else if b < a then 1 else 0
def lexB : List UInt8 → List UInt8 → Int
  | [], [] => 0
  | [], _ :: _ => -1
  | _ :: _, [] => 1
  | a :: x, b :: y => thn (sg a.toNat b.toNat) (lexB x y)
def cls (n : ByteArray) (e : Bool) : Int := if e = false then 3 else if numB n = true then 0 else if varB n = true then 2 else 1
def keyC (n m : ByteArray) (e : Bool) (p q : Nat) : Int := if cls n e = 0 then sg (valL n.data.toList) (valL m.data.toList) else thn (sg p q) (lexB n.data.toList m.data.toList)
mutual
def cmpT : Tm → Tm → Int
  | .mk n l, .mk m r => thn (sg (cls n l.isEmpty) (cls m r.isEmpty)) (thn (keyC n m l.isEmpty l.length r.length) (cmpL l r))
def cmpL : List Tm → List Tm → Int
  | [], [] => 0
  | [], _ :: _ => -1
  | _ :: _, [] => 1
  | a :: l, b :: r => thn (cmpT a b) (cmpL l r)
end
def Tri (x y z : Int) : Prop := (x ≤ 0 → y ≤ 0 → z ≤ 0) ∧ (x < 0 → y ≤ 0 → z < 0) ∧ (x ≤ 0 → y < 0 → z < 0) ∧ (0 ≤ x → 0 ≤ y → 0 ≤ z) ∧ (0 < x → 0 ≤ y → 0 < z) ∧ (0 ≤ x → 0 < y → 0 < z)
theorem tri_thn {x y z x' y' z' : Int} (h : Tri x y z) (h' : x = 0 → y = 0 → z = 0 → Tri x' y' z') : Tri (thn x x') (thn y y') (thn z z') := by
  obtain ⟨h1, h2, h3, h4, h5, h6⟩ := h
  unfold thn
  by_cases hx : x = 0 <;> by_cases hy : y = 0
  · have hz : z = 0 := by omega
    rw [if_pos hx, if_pos hy, if_pos hz]
    exact h' hx hy hz
  · have hz : z ≠ 0 := by omega
    rw [if_pos hx, if_neg hy, if_neg hz]
    unfold Tri
    omega
  · have hz : z ≠ 0 := by omega
    rw [if_neg hx, if_pos hy, if_neg hz]
    unfold Tri
    omega
  · rw [if_neg hx, if_neg hy]
    unfold Tri
    refine ⟨?_, ?_, ?_, ?_, ?_, ?_⟩ <;> intro a b <;> split <;> omega
theorem tri_sg (a b c : Int) : Tri (sg a b) (sg b c) (sg a c) := by
  unfold Tri sg
  refine ⟨?_, ?_, ?_, ?_, ?_, ?_⟩ <;> (repeat' split) <;> omega
theorem thn_neg (a b : Int) : thn (-a) (-b) = -thn a b := by unfold thn; split <;> split <;> omega
theorem sg_neg (a b : Int) : sg b a = -sg a b := by unfold sg; repeat' split
                                                    all_goals omega
theorem sg_zero (a b : Int) : sg a b = 0 ↔ a = b := by unfold sg; repeat' split
                                                       all_goals omega
theorem thn_zero (a b : Int) : thn a b = 0 ↔ a = 0 ∧ b = 0 := by unfold thn; split <;> simp_all
theorem thn_assoc (a b c : Int) : thn (thn a b) c = thn a (thn b c) := by unfold thn; repeat' split
                                                                          all_goals simp_all
theorem tri_lex : ∀ x y z : List UInt8, Tri (lexB x y) (lexB y z) (lexB x z)
  | [], [], [] => by simp [lexB, Tri]
  | [], [], _ :: _ => by simp [lexB, Tri]
  | [], _ :: _, [] => by simp [lexB, Tri]
  | [], _ :: _, _ :: _ => by simp [lexB, Tri]
  | _ :: _, [], [] => by simp [lexB, Tri]
  | _ :: _, [], _ :: _ => by simp [lexB, Tri]
  | _ :: _, _ :: _, [] => by simp [lexB, Tri]
  | a :: x, b :: y, c :: z => by simp only [lexB]; exact tri_thn (tri_sg _ _ _) (fun _ _ _ => tri_lex x y z)
theorem lex_neg : ∀ x y : List UInt8, lexB y x = -lexB x y
  | [], [] => by simp [lexB]
  | [], _ :: _ => by simp [lexB]
  | _ :: _, [] => by simp [lexB]
  | a :: x, b :: y => by simp only [lexB]; rw [sg_neg, lex_neg x y, thn_neg]
theorem lex_zero : ∀ x y : List UInt8, lexB x y = 0 ↔ x = y
  | [], [] => by simp [lexB]
  | [], _ :: _ => by simp [lexB]
  | _ :: _, [] => by simp [lexB]
  | a :: x, b :: y => by
    simp only [lexB]
    rw [thn_zero, sg_zero, lex_zero x y]
    constructor
    · rintro ⟨h, rfl⟩
      have : a = b := UInt8.toNat_inj.1 (by omega)
      rw [this]
    · intro h
      injection h with h1 h2
      subst h1 h2
      exact ⟨rfl, rfl⟩
theorem lex_less : ∀ x y : List UInt8, lexB x y = if Op.bytesLess x y then -1 else if Op.bytesLess y x then 1 else 0
  | [], [] => by simp [lexB, Op.bytesLess]
  | [], _ :: _ => by simp [lexB, Op.bytesLess]
  | _ :: _, [] => by simp [lexB, Op.bytesLess]
  | a :: x, b :: y => by
    have ih := lex_less x y
    have e1 : ∀ a b : UInt8, (a < b) ↔ a.toNat < b.toNat := fun a b => UInt8.lt_iff_toNat_lt
    have e2 : (a == b) = decide (a.toNat = b.toNat) := by rw [Bool.eq_iff_iff]; simp [UInt8.toNat_inj]
    have e3 : (b == a) = decide (b.toNat = a.toNat) := by rw [Bool.eq_iff_iff]; simp [UInt8.toNat_inj]
    simp only [lexB, Op.bytesLess, e2, e3, e1]
    unfold thn sg
    rcases Nat.lt_trichotomy a.toNat b.toNat with h | h | h
    · rw [if_pos (show ((a.toNat : Int)) < b.toNat by omega)]
      simp [h]
    · rw [if_neg (show ¬ ((a.toNat : Int)) < b.toNat by omega), if_neg (show ¬ ((b.toNat : Int)) < a.toNat by omega), ih]
      simp [h]
    · rw [if_neg (show ¬ ((a.toNat : Int)) < b.toNat by omega), if_pos (show ((b.toNat : Int)) < a.toNat by omega)]
      have h1 : ¬ a.toNat < b.toNat := by omega
      have h2 : ¬ a.toNat = b.toNat := by omega
      simp [h, h1, h2]
theorem cls_emp (n : ByteArray) (e : Bool) (h : cls n e = 0) : e = true ∧ numB n = true := by
  unfold cls at h
  cases e
  · simp at h
  · cases hn : numB n
    · simp [hn] at h; split at h <;> omega
    · exact ⟨rfl, rfl⟩
theorem tri_cmp (a : Tm) : ∀ b c, Tri (cmpT a b) (cmpT b c) (cmpT a c) := by
  induction a using Tm.ind with
  | h n l ih =>
    have hL : ∀ r s, Tri (cmpL l r) (cmpL r s) (cmpL l s) := by
      induction l with
      | nil =>
        intro r s
        cases r <;> cases s <;> simp [cmpL, Tri]
      | cons a l ihl =>
        intro r s
        cases r with
        | nil => cases s <;> simp [cmpL, Tri]
        | cons b r =>
          cases s with
          | nil => simp [cmpL, Tri]
          | cons c s =>
            simp only [cmpL]
            exact tri_thn (ih a (by simp) b c) (fun _ _ _ => ihl (fun x hx => ih x (by simp [hx])) r s)
    rintro ⟨m, r⟩ ⟨k, s⟩
    simp only [cmpT]
    refine tri_thn (tri_sg _ _ _) (fun h1 h2 _ => tri_thn ?_ (fun _ _ _ => hL r s))
    rw [sg_zero] at h1 h2
    unfold keyC
    by_cases h0 : cls n l.isEmpty = 0
    · rw [if_pos h0, if_pos (by omega), if_pos h0]
      exact tri_sg _ _ _
    · rw [if_neg h0, if_neg (by omega), if_neg h0]
      exact tri_thn (tri_sg _ _ _) (fun _ _ _ => tri_lex _ _ _)
theorem cmp_neg (a : Tm) : ∀ b, cmpT b a = -cmpT a b := by
  induction a using Tm.ind with
  | h n l ih =>
    have hL : ∀ r, cmpL r l = -cmpL l r := by
      induction l with
      | nil =>
        intro r
        cases r <;> simp [cmpL]
      | cons a l ihl =>
        intro r
        cases r with
        | nil => simp [cmpL]
        | cons b r =>
          simp only [cmpL]
          rw [ih a (by simp) b, ihl (fun x hx => ih x (by simp [hx])) r, thn_neg]
    rintro ⟨m, r⟩
    simp only [cmpT]
    rw [hL r]
    by_cases hc : cls n l.isEmpty = cls m r.isEmpty
    · have hk : keyC m n r.isEmpty r.length l.length = -keyC n m l.isEmpty l.length r.length := by
        unfold keyC
        rw [← hc]
        split
        · rw [sg_neg]
        · rw [sg_neg (l.length : Int) r.length, lex_neg, thn_neg]
      rw [hk, thn_neg, sg_neg, thn_neg]
    · have h1 : sg (cls n l.isEmpty) (cls m r.isEmpty) ≠ 0 := by rw [Ne, sg_zero]; exact hc
      have h2 := sg_neg (cls n l.isEmpty) (cls m r.isEmpty)
      unfold thn
      rw [if_neg h1, if_neg (by omega), h2]
theorem digits_inj (l m : List UInt8) (hl : isNum l = true) (hm : isNum m = true) (h : valL l = valL m) : l = m := by
  have key : ∀ l : List UInt8, isNum l = true → (∃ a : UInt8, l = [a] ∧ 48 ≤ a.toNat ∧ a.toNat ≤ 57) ∨ (∃ a b : UInt8, l = [a, b] ∧ 49 ≤ a.toNat ∧ a.toNat ≤ 57 ∧ 48 ≤ b.toNat ∧ b.toNat ≤ 57) ∨
      (∃ a b c : UInt8, l = [a, b, c] ∧ 49 ≤ a.toNat ∧ a.toNat ≤ 57 ∧ 48 ≤ b.toNat ∧ b.toNat ≤ 57 ∧ 48 ≤ c.toNat ∧ c.toNat ≤ 57) ∨
      (∃ a b c d : UInt8, l = [a, b, c, d] ∧ 49 ≤ a.toNat ∧ a.toNat ≤ 57 ∧ 48 ≤ b.toNat ∧ b.toNat ≤ 57 ∧ 48 ≤ c.toNat ∧ c.toNat ≤ 57 ∧ 48 ≤ d.toNat ∧ d.toNat ≤ 57) := by
    intro l h
    unfold isNum lead at h
    match l with
    | [] => simp at h
    | [a] => simp [allB, dgB, headB] at h; exact Or.inl ⟨a, rfl, by omega, by omega⟩
    | [a, b] => simp [allB, dgB, headB] at h; exact Or.inr (Or.inl ⟨a, b, rfl, by omega, by omega, by omega, by omega⟩)
    | [a, b, c] => simp [allB, dgB, headB] at h; exact Or.inr (Or.inr (Or.inl ⟨a, b, c, rfl, by omega, by omega, by omega, by omega, by omega, by omega⟩))
    | [a, b, c, d] => simp [allB, dgB, headB] at h; exact Or.inr (Or.inr (Or.inr ⟨a, b, c, d, rfl, by omega, by omega, by omega, by omega, by omega, by omega, by omega, by omega⟩))
    | a :: b :: c :: d :: e :: r => simp at h
  have inj : ∀ a b : UInt8, a.toNat = b.toNat → a = b := fun a b h => UInt8.toNat_inj.1 h
  rcases key l hl with ⟨a, rfl, _, _⟩ | ⟨a, b, rfl, _, _, _, _⟩ | ⟨a, b, c, rfl, _, _, _, _, _, _⟩ | ⟨a, b, c, d, rfl, _, _, _, _, _, _, _, _⟩ <;>
  rcases key m hm with ⟨a', rfl, _, _⟩ | ⟨a', b', rfl, _, _, _, _⟩ | ⟨a', b', c', rfl, _, _, _, _, _, _⟩ | ⟨a', b', c', d', rfl, _, _, _, _, _, _, _, _⟩ <;>
  simp [valL] at h <;> first | omega | (rw [inj a a' (by omega), inj b b' (by omega), inj c c' (by omega), inj d d' (by omega)]) | (rw [inj a a' (by omega), inj b b' (by omega), inj c c' (by omega)]) | (rw [inj a a' (by omega), inj b b' (by omega)]) | (rw [inj a a' (by omega)])
theorem bytes_inj {a b : ByteArray} (h : a.data.toList = b.data.toList) : a = b := by
  cases a; cases b; simp at h; rw [h]
theorem cmp_zero (a : Tm) : ∀ b, cmpT a b = 0 ↔ a = b := by
  induction a using Tm.ind with
  | h n l ih =>
    have hL : ∀ r, cmpL l r = 0 ↔ l = r := by
      induction l with
      | nil =>
        intro r
        cases r <;> simp [cmpL]
      | cons a l ihl =>
        intro r
        cases r with
        | nil => simp [cmpL]
        | cons b r =>
          simp only [cmpL]
          rw [thn_zero, ih a (by simp) b, ihl (fun x hx => ih x (by simp [hx])) r]
          simp
    rintro ⟨m, r⟩
    simp only [cmpT]
    rw [thn_zero, thn_zero, hL r, sg_zero]
    constructor
    · rintro ⟨h1, h2, rfl⟩
      unfold keyC at h2
      by_cases h0 : cls n l.isEmpty = 0
      · rw [if_pos h0, sg_zero] at h2
        rw [bytes_inj (digits_inj _ _ (cls_emp _ _ h0).2 (cls_emp _ _ (h1.symm.trans h0)).2 h2)]
      · rw [if_neg h0, thn_zero, lex_zero] at h2
        rw [bytes_inj h2.2]
    · intro h
      injection h with h1 h2
      subst h1 h2
      refine ⟨rfl, ?_, rfl⟩
      unfold keyC
      split
      · rw [sg_zero]
      · rw [thn_zero, lex_zero, sg_zero]; exact ⟨rfl, rfl⟩
theorem sg_rng (a b : Int) : -1 ≤ sg a b ∧ sg a b ≤ 1 := by unfold sg; repeat' split
                                                            all_goals omega
theorem thn_rng {a b : Int} (ha : -1 ≤ a ∧ a ≤ 1) (hb : -1 ≤ b ∧ b ≤ 1) : -1 ≤ thn a b ∧ thn a b ≤ 1 := by unfold thn; split <;> omega
theorem lex_rng : ∀ x y : List UInt8, -1 ≤ lexB x y ∧ lexB x y ≤ 1
  | [], [] => by simp [lexB]
  | [], _ :: _ => by simp [lexB]
  | _ :: _, [] => by simp [lexB]
  | a :: x, b :: y => by simp only [lexB]; exact thn_rng (sg_rng _ _) (lex_rng x y)
theorem cmp_rng (a : Tm) : ∀ b, -1 ≤ cmpT a b ∧ cmpT a b ≤ 1 := by
  induction a using Tm.ind with
  | h n l ih =>
    have hL : ∀ r, -1 ≤ cmpL l r ∧ cmpL l r ≤ 1 := by
      induction l with
      | nil =>
        intro r
        cases r <;> simp [cmpL]
      | cons a l ihl =>
        intro r
        cases r with
        | nil => simp [cmpL]
        | cons b r =>
          simp only [cmpL]
          exact thn_rng (ih a (by simp) b) (ihl (fun x hx => ih x (by simp [hx])) r)
    rintro ⟨m, r⟩
    simp only [cmpT]
    refine thn_rng (sg_rng _ _) (thn_rng ?_ (hL r))
    unfold keyC
    split
    · exact sg_rng _ _
    · exact thn_rng (sg_rng _ _) (lex_rng _ _)
end TermM
end Go.Proofs.YtihbnonbhelbmaaGreatDoor
