/- Cones are closed, and a gate's value depends on the bases and inputs of its cone alone, as plain data. Conditions: a valid network. Made by gnCc.py. -/
import Derived.Test.YtkfeliogglnngaaNetCo
import Derived.Test.YtkfeliogglnngaaNetBp
import Derived.Laws.Bits64b
namespace Go.Proofs.Ytkfeliogglnngaa
open Go
namespace NetCc
open LexM TermM NetM NetN NetMk NetOk NetEv NetCo NetBp
/-- What is left to do of a cone before gate c. -/
def coneRest (n : Nt) : Nat → List Bool → List Bool
  | 0, S => S
  | j + 1, S => coneDn n j S
theorem rest_step (n : Nt) (j : Nat) (S : List Bool) : coneRest n (j + 1) S = coneRest n j (coneStep n S j) := by
  cases j with
  | zero => rfl
  | succ j => rfl
theorem rest_len (n : Nt) : ∀ (c : Nat) (S : List Bool), (coneRest n c S).length = S.length
  | 0, _ => rfl
  | j + 1, S => cone_len n j S
theorem b_some {S : List Bool} {i : Nat} (h : bAt S i = true) : S[i]? = some true := by
  unfold bAt at h
  rw [List.getD_eq_getElem?_getD] at h
  cases hs : S[i]? with
  | none => rw [hs] at h; cases h
  | some b => rw [hs] at h; rw [show b = true from h]
theorem mark_b {S : List Bool} {l : List Int} {i : Nat} : bAt (markL S l) i = true ↔ bAt S i = true ∨ (i < S.length ∧ ∃ x ∈ l, x.toNat = i) := by
  unfold bAt
  rw [List.getD_eq_getElem?_getD, mark_get, List.getD_eq_getElem?_getD]
  by_cases hi : i < S.length
  · rw [List.getElem?_eq_getElem hi]
    simp only [Option.map_some, Option.getD_some, Bool.or_eq_true, List.any_eq_true, decide_eq_true_eq]
    exact ⟨fun h => h.imp id fun k => ⟨hi, k⟩, fun h => h.imp id fun k => k.2⟩
  · rw [List.getElem?_eq_none (by omega)]
    simp [hi]
theorem step_b {n : Nt} {S : List Bool} {c i : Nat} (h : bAt S i = true) : bAt (coneStep n S c) i = true := by
  unfold coneStep
  split
  · exact mark_b.2 (Or.inl h)
  · exact h
theorem rest_b {n : Nt} : ∀ {c : Nat} {S : List Bool} {i : Nat}, bAt S i = true → bAt (coneRest n c S) i = true
  | 0, _, _, h => h
  | c + 1, S, i, h => by
    rw [rest_step]
    exact rest_b (step_b h)
/-- A step marks only gates below. -/
theorem step_up {n : Nt} (hn : NOk n) {S : List Bool} {c i : Nat} (hi : c ≤ i) (h : bAt (coneStep n S c) i = true) : bAt S i = true := by
  unfold coneStep at h
  split at h
  · rcases mark_b.1 h with h | ⟨_, x, hx, e⟩
    · exact h
    · unfold readsAt at hx
      split at hx
      · rename_i g hg
        have := (hn.gate c g hg).rd x hx
        omega
      · cases hx
  · exact h
theorem rest_up {n : Nt} (hn : NOk n) : ∀ {c : Nat} {S : List Bool} {i : Nat}, c ≤ i + 1 → bAt (coneRest n c S) i = true → c ≤ i → bAt S i = true
  | 0, _, _, _, h, _ => h
  | c + 1, S, i, h1, h, h2 => by
    rw [rest_step] at h
    exact step_up hn (by omega) (rest_up hn (by omega) h (by omega))
/-- What is marked in the end has its reads marked. -/
theorem rest_closed {n : Nt} (hn : NOk n) : ∀ (c : Nat) (S : List Bool), S.length = n.gates.length → (∀ j, c ≤ j → bAt S j = true → ∀ x ∈ readsAt n j, bAt S x.toNat = true) → ∀ j, bAt (coneRest n c S) j = true → ∀ x ∈ readsAt n j, bAt (coneRest n c S) x.toNat = true
  | 0, _, _, h, j, hj, x, hx => h j (Nat.zero_le _) hj x hx
  | c + 1, S, hl, h, j, hj, x, hx => by
    rw [rest_step] at *
    refine rest_closed hn c (coneStep n S c) (by rw [step_len, hl]) (fun i hi hb y hy => ?_) j hj x hx
    have hb' := step_up hn hi hb
    by_cases e : i = c
    · subst e
      unfold coneStep
      rw [if_pos hb']
      refine mark_b.2 (Or.inr ⟨?_, y, hy, rfl⟩)
      rw [hl]
      unfold readsAt at hy
      split at hy
      · rename_i g hg
        have h1 := (hn.gate i g hg).rd y hy
        have h2 := (List.getElem?_eq_some_iff.1 hg).1
        omega
      · cases hy
    · exact step_b (h i (by omega) hb' y hy)
/-- The marks of a cone. -/
def coneT (n : Nt) (g : Nat) : List Bool := coneRest n (g + 1) (mark1 (List.replicate n.gates.length false) g)
theorem cone_marks (n : Nt) (g : Nat) : coneN n g = numsOf (coneT n g) := rfl
theorem conet_len (n : Nt) (g : Nat) : (coneT n g).length = n.gates.length := by
  unfold coneT
  rw [rest_len]
  simp [mark1]
theorem start_b {m g i : Nat} (h : bAt (mark1 (List.replicate m false) (g : Int)) i = true) : i = g := by
  have h := b_some h
  unfold mark1 at h
  rw [List.getElem?_set] at h
  split at h
  · simp at *
    omega
  · rw [List.getElem?_replicate] at h
    split at h
    · injection h with h
      cases h
    · cases h
theorem cone_self {n : Nt} {g : Nat} (hg : g < n.gates.length) : bAt (coneT n g) g = true := by
  unfold coneT
  refine rest_b ?_
  unfold bAt mark1
  rw [List.getD_eq_getElem?_getD, List.getElem?_set]
  simp [hg]
theorem cone_closed {n : Nt} (hn : NOk n) (g : Nat) : ∀ j, bAt (coneT n g) j = true → ∀ x ∈ readsAt n j, bAt (coneT n g) x.toNat = true := by
  unfold coneT
  refine rest_closed hn (g + 1) _ (by simp [mark1]) fun j hj hb => ?_
  have := start_b hb
  omega
theorem cone_mem {n : Nt} {g : Nat} {j : Nat} : (j : Int) ∈ coneN n g ↔ bAt (coneT n g) j = true := by
  rw [cone_marks]
  unfold numsOf
  rw [NetBp.nums_mem]
  constructor
  · rintro ⟨i, _, e, h⟩
    obtain rfl : j = i := by omega
    exact b_get h
  · intro h
    have h2 := b_some h
    exact ⟨j, (List.getElem?_eq_some_iff.1 h2).1, rfl, h2⟩
theorem cone_range {n : Nt} {g : Nat} : ∀ x ∈ coneN n g, 0 ≤ x ∧ x < (n.gates.length : Int) := by
  intro x hx
  rw [cone_marks] at hx
  unfold numsOf at hx
  have := (nums_pw (coneT n g) (coneT n g).length).2 x hx
  rw [conet_len] at this
  exact this
/-- The value of a gate of a cone depends on the bases and inputs in it. -/
theorem cone_same {n : Nt} (hn : NOk n) {st st' ip ip' : List Int} {i : Nat}
    (hs : ∀ (j : Nat) (g : Gt), bAt (coneT n i) j = true → n.gates[j]? = some g → g.1 = 2 → (g.2.1 ∈ st ↔ g.2.1 ∈ st'))
    (hi : ∀ (j : Nat) (g : Gt), bAt (coneT n i) j = true → n.gates[j]? = some g → g.1 = 3 → (g.2.1 ∈ ip ↔ g.2.1 ∈ ip')) :
    ∀ j : Nat, j < n.gates.length → bAt (coneT n i) j = true → vAt (valsN st ip n) j = vAt (valsN st' ip' n) j := by
  intro j
  induction j using Nat.strongRecOn with
  | ind j IH =>
    intro hj hb
    obtain ⟨g, hg⟩ : ∃ g, n.gates[j]? = some g := ⟨n.gates[j], List.getElem?_eq_getElem hj⟩
    have ok := hn.gate j g hg
    have e1 : vAt (valsN st ip n) j = gvN st ip (valsN st ip n) g := v_get (vals_at st ip hn hg)
    have e2 : vAt (valsN st' ip' n) j = gvN st' ip' (valsN st' ip' n) g := v_get (vals_at st' ip' hn hg)
    have e3 : gvN st ip (valsN st ip n) g = gvN st ip (valsN st' ip' n) g := gv_congr (fun x hx => by
      have hr := ok.rd x hx
      obtain ⟨t, rfl⟩ : ∃ t : Nat, x = (t : Int) := ⟨x.toNat, by omega⟩
      exact IH t (by omega) (by omega) (by
        have := cone_closed hn i j hb (t : Int) (by rw [reads_get hg]; exact hx)
        rwa [Int.toNat_natCast] at this)) fun e => GOk.one ok e
    rw [e1, e2, e3]
    unfold gvN
    by_cases h2 : g.1 = 2
    · rw [if_pos h2, if_pos h2]
      exact decide_eq_decide.2 (hs j g hb hg h2)
    rw [if_neg h2, if_neg h2]
    by_cases h3 : g.1 = 3
    · rw [if_pos h3, if_pos h3]
      exact decide_eq_decide.2 (hi j g hb hg h3)
    rw [if_neg h3, if_neg h3]
/-! ### Bits of the bases and inputs of some gates -/
def kAt (n : Nt) (x : Int) : Gt := n.gates.getD x.toNat (0, 0, [])
theorem k_get {n : Nt} {t : Nat} {g : Gt} (h : n.gates[t]? = some g) : kAt n (t : Int) = g := by
  unfold kAt
  rw [Int.toNat_natCast, List.getD_eq_getElem?_getD, h]
  rfl
def orK (n : Nt) (kd : Int) (s : Nat) (x : Int) : Nat := if (kAt n x).1 = kd then s ||| 2 ^ (kAt n x).2.1.toNat else s
def orsK (n : Nt) (kd : Int) (l : List Int) : Nat := l.foldl (orK n kd) 0
theorem ors_next (n : Nt) (kd : Int) (l : List Int) {k : Nat} {x : Int} (h : l[k]? = some x) : orsK n kd (l.take (k + 1)) = orK n kd (orsK n kd (l.take k)) x := by
  unfold orsK
  rw [List.take_add_one, h, List.foldl_append]
  rfl
theorem ors_from (n : Nt) (kd : Int) (i : Nat) : ∀ (l : List Int) (s : Nat), (l.foldl (orK n kd) s).testBit i = (s.testBit i || l.any fun x => decide ((kAt n x).1 = kd) && decide ((kAt n x).2.1.toNat = i))
  | [], s => by simp
  | x :: l, s => by
    rw [List.foldl_cons, ors_from n kd i l, List.any_cons]
    unfold orK
    by_cases h : (kAt n x).1 = kd
    · rw [if_pos h, Nat.testBit_or, Nat.testBit_two_pow, decide_eq_true h, Bool.true_and, Bool.or_assoc]
    · rw [if_neg h, decide_eq_false h, Bool.false_and, Bool.false_or]
theorem ors_bit {n : Nt} {kd : Int} {l : List Int} {x : Int} (hx : x ∈ l) (hk : (kAt n x).1 = kd) : (orsK n kd l).testBit (kAt n x).2.1.toNat = true := by
  unfold orsK
  rw [ors_from, Bool.or_eq_true, List.any_eq_true]
  exact Or.inr ⟨x, hx, by rw [decide_eq_true hk, decide_eq_true rfl]; rfl⟩
theorem ors_lt {n : Nt} {kd : Int} : ∀ (l : List Int) (s : Nat), s < 2 ^ 64 → (∀ x ∈ l, (kAt n x).1 = kd → (kAt n x).2.1.toNat < 64) → l.foldl (orK n kd) s < 2 ^ 64
  | [], _, h, _ => h
  | x :: l, s, h, hx => by
    refine ors_lt l _ ?_ fun y hy => hx y (by simp [hy])
    unfold orK
    split
    · rename_i hk
      exact Nat.or_lt_two_pow h (Nat.pow_lt_pow_right (by decide) (hx x (by simp) hk))
    · exact h
/-- The mixed bits. -/
def mixB (p q s : Nat) : Nat := (p &&& s) ||| (q &&& (18446744073709551615 - s))
theorem mix_bit {p q s i : Nat} (hs : s < 2 ^ 64) (h : s.testBit i = true) : (mixB p q s).testBit i = p.testBit i := by
  unfold mixB
  rw [Nat.testBit_or, Nat.testBit_and, Nat.testBit_and, h, show 18446744073709551615 - s = 2 ^ 64 - (s + 1) by omega, Nat.testBit_two_pow_sub_succ hs, h]
  simp
theorem mix_lt {p q s : Nat} (hp : p < 2 ^ 64) (hq : q < 2 ^ 64) : mixB p q s < 2 ^ 64 := by
  unfold mixB
  exact Nat.or_lt_two_pow (Nat.lt_of_le_of_lt Nat.and_le_left hp) (Nat.lt_of_le_of_lt Nat.and_le_left hq)
theorem bits_andnot_u64 (a b : Nat) (ha : a < 18446744073709551616) (hb : b < 18446744073709551616) : bits .andNot .u64 (a : Int) (b : Int) = ((a &&& (18446744073709551615 - b) : Nat) : Int) := by
  have hx : a &&& (18446744073709551615 - b) < 2 ^ 64 := Nat.lt_of_le_of_lt Nat.and_le_left (by omega)
  have h1 : (BitVec.ofInt 64 (a : Int)).toNat = a := by
    rw [BitVec.ofInt_natCast, BitVec.toNat_ofNat]; exact Nat.mod_eq_of_lt (by omega)
  have h2 : (BitVec.ofInt 64 (b : Int)).toNat = b := by
    rw [BitVec.ofInt_natCast, BitVec.toNat_ofNat]; exact Nat.mod_eq_of_lt (by omega)
  show IntKind.u64.wrap ((BitVec.ofInt 64 (a : Int) &&& ~~~ (BitVec.ofInt 64 (b : Int))).toNat : Int) = _
  rw [BitVec.toNat_and, BitVec.toNat_not, h1, h2, IntKind.wrap_u64]
  have : (2 ^ 64 - 1 - b) = 18446744073709551615 - b := by omega
  rw [this]
  omega
/-- A cone's error, and the cone. -/
def coneE (f : Tm → Bool) (n : Nt) (g : Int) : List Int := if chkN f n = 0 ∧ 0 ≤ g ∧ g < n.gates.length then coneN n g.toNat else []
end NetCc
end Go.Proofs.Ytkfeliogglnngaa
