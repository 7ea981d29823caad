/- Texts laid together: NetCo; NetCc; NetAg; NetAf; NetNv; NetAr; NetCd; NetBk; DeltaBack. Their own heads stand before each. -/
import Derived.Test.YtgbbpliihglijaaGBD
import Derived.Test.YtgbbpliihglijaaNetBp
import Derived.Laws.Bits64b
import Derived.Test.YtgbbpliihglijaaGDA
import Derived.Test.YtgbbpliihglijaaNetY
import Derived.Test.YtgbbpliihglijaaNetS
import Derived.Test.YtgbbpliihglijaaGBB
import Derived.Test.YtgbbpliihglijaaNetSz
import Derived.Laws.Bits64
import Derived.ChangeMaps5
/- Cone and Affected as plain data. No conditions. -/
namespace Go.Proofs.Ytgbbpliihglijaa
open Go
namespace NetCo
open LexM TermM NetM NetN NetMk
def bAt (S : List Bool) (i : Nat) : Bool := S.getD i false
theorem b_get {S : List Bool} {i : Nat} {b : Bool} (h : S[i]? = some b) : bAt S i = b := by
  unfold bAt
  rw [List.getD_eq_getElem?_getD, h]
  rfl
/-- The read numbers of gate i. -/
def readsAt (n : Nt) (i : Nat) : List Int := match n.gates[i]? with
  | some g => g.2.2
  | none => []
theorem reads_get {n : Nt} {i : Nat} {g : Gt} (h : n.gates[i]? = some g) : readsAt n i = g.2.2 := by
  unfold readsAt
  rw [h]
def coneStep (n : Nt) (S : List Bool) (i : Nat) : List Bool := if bAt S i = true then markL S (readsAt n i) else S
/-- From gate i down. -/
def coneDn (n : Nt) : Nat → List Bool → List Bool
  | 0, S => coneStep n S 0
  | i + 1, S => coneDn n i (coneStep n S (i + 1))
def coneN (n : Nt) (g : Nat) : List Int := numsOf (coneDn n g (mark1 (List.replicate n.gates.length false) g))
theorem step_len (n : Nt) (S : List Bool) (i : Nat) : (coneStep n S i).length = S.length := by
  unfold coneStep
  split
  · exact mark_len _ _
  · rfl
theorem cone_len (n : Nt) : ∀ (i : Nat) (S : List Bool), (coneDn n i S).length = S.length
  | 0, S => step_len n S 0
  | i + 1, S => by
    show (coneDn n i (coneStep n S (i + 1))).length = _
    rw [cone_len n i, step_len]
/-- The given numbers that are gates. -/
def inGates (n : Nt) (l : List Int) : List Int := l.filter fun x => inB x n.gates.length
def afStep (i : Nat) (S : List Bool) (x : Int) : List Bool := S.set i (bAt S i || bAt S x.toNat)
def afGate (i : Nat) (S : List Bool) (l : List Int) : List Bool := l.foldl (afStep i) S
def afFrom : Nat → List Bool → List Gt → List Bool
  | _, S, [] => S
  | i, S, g :: l => afFrom (i + 1) (afGate i S g.2.2) l
def affN (n : Nt) (l : List Int) : List Int := numsOf (afFrom 0 (markL (List.replicate n.gates.length false) (inGates n l)) n.gates)
theorem afgate_next (i : Nat) (S : List Bool) (l : List Int) {k : Nat} {x : Int} (h : l[k]? = some x) : afGate i S (l.take (k + 1)) = afStep i (afGate i S (l.take k)) x := by
  unfold afGate
  rw [List.take_add_one, h, List.foldl_append]
  rfl
theorem afgate_len (i : Nat) : ∀ (l : List Int) (S : List Bool), (afGate i S l).length = S.length
  | [], _ => rfl
  | x :: l, S => by
    show (afGate i (afStep i S x) l).length = _
    rw [afgate_len i l]
    unfold afStep
    simp
theorem affrom_len : ∀ (l : List Gt) (i : Nat) (S : List Bool), (afFrom i S l).length = S.length
  | [], _, _ => rfl
  | g :: l, i, S => by
    show (afFrom (i + 1) (afGate i S g.2.2) l).length = _
    rw [affrom_len l, afgate_len]
theorem affrom_app : ∀ (l r : List Gt) (i : Nat) (S : List Bool), afFrom i S (l ++ r) = afFrom (i + l.length) (afFrom i S l) r
  | [], _, _, _ => rfl
  | g :: l, r, i, S => by
    show afFrom (i + 1) (afGate i S g.2.2) (l ++ r) = afFrom (i + (l.length + 1)) (afFrom (i + 1) (afGate i S g.2.2) l) r
    rw [affrom_app l r, show i + 1 + l.length = i + (l.length + 1) by omega]
theorem affrom_next (S : List Bool) (l : List Gt) {k : Nat} {g : Gt} (h : l[k]? = some g) : afFrom 0 S (l.take (k + 1)) = afGate k (afFrom 0 S (l.take k)) g.2.2 := by
  have hk := (List.getElem?_eq_some_iff.1 h).1
  rw [List.take_add_one, h]
  show afFrom 0 S (l.take k ++ [g]) = _
  rw [affrom_app, List.length_take, Nat.min_eq_left (by omega), Nat.zero_add]
  rfl
theorem in_next (n : Nt) (l : List Int) {k : Nat} {x : Int} (h : l[k]? = some x) : inGates n (l.take (k + 1)) = if inB x n.gates.length = true then inGates n (l.take k) ++ [x] else inGates n (l.take k) := by
  unfold inGates
  rw [List.take_add_one, h, List.filter_append]
  by_cases e : inB x n.gates.length = true
  · rw [if_pos e]
    simp [e]
  · rw [if_neg e]
    simp [e]
end NetCo
end Go.Proofs.Ytgbbpliihglijaa
/- Cones are closed, and a gate's value depends on the bases and inputs of its cone alone, as plain data. Conditions: a valid network. Made by gnCc.py. -/
namespace Go.Proofs.Ytgbbpliihglijaa
open Go
namespace NetCc
open LexM TermM NetM NetN NetMk NetOk NetEv NetCo NetBp
/-- What is left to do of a cone before gate c. -/
def coneRest (n : Nt) : Nat → List Bool → List Bool
  | 0, S => S
  | j + 1, S => coneDn n j S
theorem rest_step (n : Nt) (j : Nat) (S : List Bool) : coneRest n (j + 1) S = coneRest n j (coneStep n S j) := by
  cases j with
  | zero => rfl
  | succ j => rfl
theorem rest_len (n : Nt) : ∀ (c : Nat) (S : List Bool), (coneRest n c S).length = S.length
  | 0, _ => rfl
  | j + 1, S => cone_len n j S
theorem b_some {S : List Bool} {i : Nat} (h : bAt S i = true) : S[i]? = some true := by
  unfold bAt at h
  rw [List.getD_eq_getElem?_getD] at h
  cases hs : S[i]? with
  | none => rw [hs] at h; cases h
  | some b => rw [hs] at h; rw [show b = true from h]
theorem mark_b {S : List Bool} {l : List Int} {i : Nat} : bAt (markL S l) i = true ↔ bAt S i = true ∨ (i < S.length ∧ ∃ x ∈ l, x.toNat = i) := by
  unfold bAt
  rw [List.getD_eq_getElem?_getD, mark_get, List.getD_eq_getElem?_getD]
  by_cases hi : i < S.length
  · rw [List.getElem?_eq_getElem hi]
    simp only [Option.map_some, Option.getD_some, Bool.or_eq_true, List.any_eq_true, decide_eq_true_eq]
    exact ⟨fun h => h.imp id fun k => ⟨hi, k⟩, fun h => h.imp id fun k => k.2⟩
  · rw [List.getElem?_eq_none (by omega)]
    simp [hi]
theorem step_b {n : Nt} {S : List Bool} {c i : Nat} (h : bAt S i = true) : bAt (coneStep n S c) i = true := by
  unfold coneStep
  split
  · exact mark_b.2 (Or.inl h)
  · exact h
theorem rest_b {n : Nt} : ∀ {c : Nat} {S : List Bool} {i : Nat}, bAt S i = true → bAt (coneRest n c S) i = true
  | 0, _, _, h => h
  | c + 1, S, i, h => by
    rw [rest_step]
    exact rest_b (step_b h)
/-- A step marks only gates below. -/
theorem step_up {n : Nt} (hn : NOk n) {S : List Bool} {c i : Nat} (hi : c ≤ i) (h : bAt (coneStep n S c) i = true) : bAt S i = true := by
  unfold coneStep at h
  split at h
  · rcases mark_b.1 h with h | ⟨_, x, hx, e⟩
    · exact h
    · unfold readsAt at hx
      split at hx
      · rename_i g hg
        have := (hn.gate c g hg).rd x hx
        omega
      · cases hx
  · exact h
theorem rest_up {n : Nt} (hn : NOk n) : ∀ {c : Nat} {S : List Bool} {i : Nat}, c ≤ i + 1 → bAt (coneRest n c S) i = true → c ≤ i → bAt S i = true
  | 0, _, _, _, h, _ => h
  | c + 1, S, i, h1, h, h2 => by
    rw [rest_step] at h
    exact step_up hn (by omega) (rest_up hn (by omega) h (by omega))
/-- What is marked in the end has its reads marked. -/
theorem rest_closed {n : Nt} (hn : NOk n) : ∀ (c : Nat) (S : List Bool), S.length = n.gates.length → (∀ j, c ≤ j → bAt S j = true → ∀ x ∈ readsAt n j, bAt S x.toNat = true) → ∀ j, bAt (coneRest n c S) j = true → ∀ x ∈ readsAt n j, bAt (coneRest n c S) x.toNat = true
  | 0, _, _, h, j, hj, x, hx => h j (Nat.zero_le _) hj x hx
  | c + 1, S, hl, h, j, hj, x, hx => by
    rw [rest_step] at *
    refine rest_closed hn c (coneStep n S c) (by rw [step_len, hl]) (fun i hi hb y hy => ?_) j hj x hx
    have hb' := step_up hn hi hb
    by_cases e : i = c
    · subst e
      unfold coneStep
      rw [if_pos hb']
      refine mark_b.2 (Or.inr ⟨?_, y, hy, rfl⟩)
      rw [hl]
      unfold readsAt at hy
      split at hy
      · rename_i g hg
        have h1 := (hn.gate i g hg).rd y hy
        have h2 := (List.getElem?_eq_some_iff.1 hg).1
        omega
      · cases hy
    · exact step_b (h i (by omega) hb' y hy)
/-- The marks of a cone. -/
def coneT (n : Nt) (g : Nat) : List Bool := coneRest n (g + 1) (mark1 (List.replicate n.gates.length false) g)
theorem cone_marks (n : Nt) (g : Nat) : coneN n g = numsOf (coneT n g) := rfl
theorem conet_len (n : Nt) (g : Nat) : (coneT n g).length = n.gates.length := by
  unfold coneT
  rw [rest_len]
  simp [mark1]
theorem start_b {m g i : Nat} (h : bAt (mark1 (List.replicate m false) (g : Int)) i = true) : i = g := by
  have h := b_some h
  unfold mark1 at h
  rw [List.getElem?_set] at h
  split at h
  · simp at *
    omega
  · rw [List.getElem?_replicate] at h
    split at h
    · injection h with h
      cases h
    · cases h
theorem cone_self {n : Nt} {g : Nat} (hg : g < n.gates.length) : bAt (coneT n g) g = true := by
  unfold coneT
  refine rest_b ?_
  unfold bAt mark1
  rw [List.getD_eq_getElem?_getD, List.getElem?_set]
  simp [hg]
theorem cone_closed {n : Nt} (hn : NOk n) (g : Nat) : ∀ j, bAt (coneT n g) j = true → ∀ x ∈ readsAt n j, bAt (coneT n g) x.toNat = true := by
  unfold coneT
  refine rest_closed hn (g + 1) _ (by simp [mark1]) fun j hj hb => ?_
  have := start_b hb
  omega
theorem cone_mem {n : Nt} {g : Nat} {j : Nat} : (j : Int) ∈ coneN n g ↔ bAt (coneT n g) j = true := by
  rw [cone_marks]
  unfold numsOf
  rw [NetBp.nums_mem]
  constructor
  · rintro ⟨i, _, e, h⟩
    obtain rfl : j = i := by omega
    exact b_get h
  · intro h
    have h2 := b_some h
    exact ⟨j, (List.getElem?_eq_some_iff.1 h2).1, rfl, h2⟩
theorem cone_range {n : Nt} {g : Nat} : ∀ x ∈ coneN n g, 0 ≤ x ∧ x < (n.gates.length : Int) := by
  intro x hx
  rw [cone_marks] at hx
  unfold numsOf at hx
  have := (nums_pw (coneT n g) (coneT n g).length).2 x hx
  rw [conet_len] at this
  exact this
/-- The value of a gate of a cone depends on the bases and inputs in it. -/
theorem cone_same {n : Nt} (hn : NOk n) {st st' ip ip' : List Int} {i : Nat}
    (hs : ∀ (j : Nat) (g : Gt), bAt (coneT n i) j = true → n.gates[j]? = some g → g.1 = 2 → (g.2.1 ∈ st ↔ g.2.1 ∈ st'))
    (hi : ∀ (j : Nat) (g : Gt), bAt (coneT n i) j = true → n.gates[j]? = some g → g.1 = 3 → (g.2.1 ∈ ip ↔ g.2.1 ∈ ip')) :
    ∀ j : Nat, j < n.gates.length → bAt (coneT n i) j = true → vAt (valsN st ip n) j = vAt (valsN st' ip' n) j := by
  intro j
  induction j using Nat.strongRecOn with
  | ind j IH =>
    intro hj hb
    obtain ⟨g, hg⟩ : ∃ g, n.gates[j]? = some g := ⟨n.gates[j], List.getElem?_eq_getElem hj⟩
    have ok := hn.gate j g hg
    have e1 : vAt (valsN st ip n) j = gvN st ip (valsN st ip n) g := v_get (vals_at st ip hn hg)
    have e2 : vAt (valsN st' ip' n) j = gvN st' ip' (valsN st' ip' n) g := v_get (vals_at st' ip' hn hg)
    have e3 : gvN st ip (valsN st ip n) g = gvN st ip (valsN st' ip' n) g := gv_congr (fun x hx => by
      have hr := ok.rd x hx
      obtain ⟨t, rfl⟩ : ∃ t : Nat, x = (t : Int) := ⟨x.toNat, by omega⟩
      exact IH t (by omega) (by omega) (by
        have := cone_closed hn i j hb (t : Int) (by rw [reads_get hg]; exact hx)
        rwa [Int.toNat_natCast] at this)) fun e => GOk.one ok e
    rw [e1, e2, e3]
    unfold gvN
    by_cases h2 : g.1 = 2
    · rw [if_pos h2, if_pos h2]
      exact decide_eq_decide.2 (hs j g hb hg h2)
    rw [if_neg h2, if_neg h2]
    by_cases h3 : g.1 = 3
    · rw [if_pos h3, if_pos h3]
      exact decide_eq_decide.2 (hi j g hb hg h3)
    rw [if_neg h3, if_neg h3]
/-! ### Bits of the bases and inputs of some gates -/
def kAt (n : Nt) (x : Int) : Gt := n.gates.getD x.toNat (0, 0, [])
theorem k_get {n : Nt} {t : Nat} {g : Gt} (h : n.gates[t]? = some g) : kAt n (t : Int) = g := by
  unfold kAt
  rw [Int.toNat_natCast, List.getD_eq_getElem?_getD, h]
  rfl
def orK (n : Nt) (kd : Int) (s : Nat) (x : Int) : Nat := if (kAt n x).1 = kd then s ||| 2 ^ (kAt n x).2.1.toNat else s
def orsK (n : Nt) (kd : Int) (l : List Int) : Nat := l.foldl (orK n kd) 0
theorem ors_next (n : Nt) (kd : Int) (l : List Int) {k : Nat} {x : Int} (h : l[k]? = some x) : orsK n kd (l.take (k + 1)) = orK n kd (orsK n kd (l.take k)) x := by
  unfold orsK
  rw [List.take_add_one, h, List.foldl_append]
  rfl
theorem ors_from (n : Nt) (kd : Int) (i : Nat) : ∀ (l : List Int) (s : Nat), (l.foldl (orK n kd) s).testBit i = (s.testBit i || l.any fun x => decide ((kAt n x).1 = kd) && decide ((kAt n x).2.1.toNat = i))
  | [], s => by simp
  | x :: l, s => by
    rw [List.foldl_cons, ors_from n kd i l, List.any_cons]
    unfold orK
    by_cases h : (kAt n x).1 = kd
    · rw [if_pos h, Nat.testBit_or, Nat.testBit_two_pow, decide_eq_true h, Bool.true_and, Bool.or_assoc]
    · rw [if_neg h, decide_eq_false h, Bool.false_and, Bool.false_or]
theorem ors_bit {n : Nt} {kd : Int} {l : List Int} {x : Int} (hx : x ∈ l) (hk : (kAt n x).1 = kd) : (orsK n kd l).testBit (kAt n x).2.1.toNat = true := by
  unfold orsK
  rw [ors_from, Bool.or_eq_true, List.any_eq_true]
  exact Or.inr ⟨x, hx, by rw [decide_eq_true hk, decide_eq_true rfl]; rfl⟩
theorem ors_lt {n : Nt} {kd : Int} : ∀ (l : List Int) (s : Nat), s < 2 ^ 64 → (∀ x ∈ l, (kAt n x).1 = kd → (kAt n x).2.1.toNat < 64) → l.foldl (orK n kd) s < 2 ^ 64
  | [], _, h, _ => h
  | x :: l, s, h, hx => by
    refine ors_lt l _ ?_ fun y hy => hx y (by simp [hy])
    unfold orK
    split
    · rename_i hk
      exact Nat.or_lt_two_pow h (Nat.pow_lt_pow_right (by decide) (hx x (by simp) hk))
    · exact h
/-- The mixed bits. -/
def mixB (p q s : Nat) : Nat := (p &&& s) ||| (q &&& (18446744073709551615 - s))
theorem mix_bit {p q s i : Nat} (hs : s < 2 ^ 64) (h : s.testBit i = true) : (mixB p q s).testBit i = p.testBit i := by
  unfold mixB
  rw [Nat.testBit_or, Nat.testBit_and, Nat.testBit_and, h, show 18446744073709551615 - s = 2 ^ 64 - (s + 1) by omega, Nat.testBit_two_pow_sub_succ hs, h]
  simp
theorem mix_lt {p q s : Nat} (hp : p < 2 ^ 64) (hq : q < 2 ^ 64) : mixB p q s < 2 ^ 64 := by
  unfold mixB
  exact Nat.or_lt_two_pow (Nat.lt_of_le_of_lt Nat.and_le_left hp) (Nat.lt_of_le_of_lt Nat.and_le_left hq)
theorem bits_andnot_u64 (a b : Nat) (ha : a < 18446744073709551616) (hb : b < 18446744073709551616) : bits .andNot .u64 (a : Int) (b : Int) = ((a &&& (18446744073709551615 - b) : Nat) : Int) := by
  have hx : a &&& (18446744073709551615 - b) < 2 ^ 64 := Nat.lt_of_le_of_lt Nat.and_le_left (by omega)
  have h1 : (BitVec.ofInt 64 (a : Int)).toNat = a := by
    rw [BitVec.ofInt_natCast, BitVec.toNat_ofNat]; exact Nat.mod_eq_of_lt (by omega)
  have h2 : (BitVec.ofInt 64 (b : Int)).toNat = b := by
    rw [BitVec.ofInt_natCast, BitVec.toNat_ofNat]; exact Nat.mod_eq_of_lt (by omega)
  show IntKind.u64.wrap ((BitVec.ofInt 64 (a : Int) &&& ~~~ (BitVec.ofInt 64 (b : Int))).toNat : Int) = _
  rw [BitVec.toNat_and, BitVec.toNat_not, h1, h2, IntKind.wrap_u64]
  have : (2 ^ 64 - 1 - b) = 18446744073709551615 - b := by omega
  rw [this]
  omega
/-- A cone's error, and the cone. -/
def coneE (f : Tm → Bool) (n : Nt) (g : Int) : List Int := if chkN f n = 0 ∧ 0 ≤ g ∧ g < n.gates.length then coneN n g.toNat else []
end NetCc
end Go.Proofs.Ytgbbpliihglijaa
/- What Affected marks, as plain data. Conditions: a valid network. -/
namespace Go.Proofs.Ytgbbpliihglijaa
open Go
namespace NetAg
open LexM TermM NetM NetN NetMk NetOk NetEv NetCo NetBp NetCc
theorem b_set {S : List Bool} {i j : Nat} {b : Bool} (hi : i < S.length) : bAt (S.set i b) j = if i = j then b else bAt S j := by
  unfold bAt
  rw [List.getD_eq_getElem?_getD, List.getElem?_set, List.getD_eq_getElem?_getD]
  by_cases e : i = j
  · subst e
    rw [if_pos rfl, if_pos hi, if_pos rfl]
    rfl
  · rw [if_neg e, if_neg e]
theorem afgate_b (i : Nat) : ∀ (l : List Int) (S : List Bool), i < S.length → (∀ x ∈ l, x.toNat ≠ i) → ∀ j, bAt (afGate i S l) j = if i = j then (bAt S i || l.any fun x => bAt S x.toNat) else bAt S j
  | [], S, _, _, j => by
    show bAt S j = _
    by_cases e : i = j
    · subst e
      simp
    · rw [if_neg e]
  | x :: l, S, hi, hx, j => by
    show bAt (afGate i (afStep i S x) l) j = _
    have hl : i < (afStep i S x).length := by unfold afStep; simpa using hi
    rw [afgate_b i l _ hl (fun y hy => hx y (List.mem_cons_of_mem _ hy)) j]
    have hs : ∀ k, bAt (afStep i S x) k = if i = k then (bAt S i || bAt S x.toNat) else bAt S k := fun k => by unfold afStep; exact b_set hi
    by_cases e : i = j
    · rw [if_pos e, if_pos e, hs i, if_pos rfl, List.any_cons]
      have e2 : (l.any fun y => bAt (afStep i S x) y.toNat) = l.any fun y => bAt S y.toNat := by
        rw [Bool.eq_iff_iff, List.any_eq_true, List.any_eq_true]
        constructor
        · rintro ⟨y, hy, hb⟩
          rw [hs, if_neg (fun e => hx y (List.mem_cons_of_mem _ hy) e.symm)] at hb
          exact ⟨y, hy, hb⟩
        · rintro ⟨y, hy, hb⟩
          exact ⟨y, hy, by rw [hs, if_neg (fun e => hx y (List.mem_cons_of_mem _ hy) e.symm)]; exact hb⟩
      rw [e2, Bool.or_assoc]
    · rw [if_neg e, if_neg e, hs j, if_neg e]
/-- The marks of Affected. -/
def affT (n : Nt) (l : List Int) : List Bool := afFrom 0 (markL (List.replicate n.gates.length false) (inGates n l)) n.gates
theorem aff_marks (n : Nt) (l : List Int) : affN n l = numsOf (affT n l) := rfl
theorem affT_len (n : Nt) (l : List Int) : (affT n l).length = n.gates.length := by
  unfold affT
  rw [affrom_len, mark_len]
  simp
theorem from_b {n : Nt} (hn : NOk n) {S : List Bool} (hl : S.length = n.gates.length) {k : Nat} {g : Gt} (hg : n.gates[k]? = some g) (j : Nat) : bAt (afFrom 0 S (n.gates.take (k + 1))) j = if k = j then (bAt (afFrom 0 S (n.gates.take k)) k || g.2.2.any fun x => bAt (afFrom 0 S (n.gates.take k)) x.toNat) else bAt (afFrom 0 S (n.gates.take k)) j := by
  rw [affrom_next S n.gates hg]
  refine afgate_b k g.2.2 _ (by rw [affrom_len, hl]; exact (List.getElem?_eq_some_iff.1 hg).1) (fun x hx => ?_) j
  have := (hn.gate k g hg).rd x hx
  omega
theorem from_late {n : Nt} (hn : NOk n) {S : List Bool} (hl : S.length = n.gates.length) : ∀ k, k ≤ n.gates.length → ∀ j, k ≤ j → bAt (afFrom 0 S (n.gates.take k)) j = bAt S j
  | 0, _, j, _ => by rw [List.take_zero]; rfl
  | k + 1, hk, j, hj => by
    obtain ⟨g, hg⟩ : ∃ g, n.gates[k]? = some g := ⟨n.gates[k], List.getElem?_eq_getElem (by omega)⟩
    rw [from_b hn hl hg, if_neg (by omega)]
    exact from_late hn hl k (by omega) j (by omega)
theorem from_early {n : Nt} (hn : NOk n) {S : List Bool} (hl : S.length = n.gates.length) (k : Nat) : ∀ d, k + d ≤ n.gates.length → ∀ j, j < k → bAt (afFrom 0 S (n.gates.take (k + d))) j = bAt (afFrom 0 S (n.gates.take k)) j
  | 0, _, j, _ => rfl
  | d + 1, hk, j, hj => by
    obtain ⟨g, hg⟩ : ∃ g, n.gates[k + d]? = some g := ⟨n.gates[k + d], List.getElem?_eq_getElem (by omega)⟩
    rw [show k + (d + 1) = k + d + 1 by omega, from_b hn hl hg, if_neg (by omega)]
    exact from_early hn hl k d (by omega) j hj
/-- A gate is affected exactly if it is given, or reads one that is affected. -/
theorem aff_fix {n : Nt} (hn : NOk n) (l : List Int) {j : Nat} {g : Gt} (hg : n.gates[j]? = some g) : bAt (affT n l) j = (bAt (markL (List.replicate n.gates.length false) (inGates n l)) j || g.2.2.any fun x => bAt (affT n l) x.toNat) := by
  have hj := (List.getElem?_eq_some_iff.1 hg).1
  have hl : (markL (List.replicate n.gates.length false) (inGates n l)).length = n.gates.length := by rw [mark_len]; simp
  have fin : ∀ k i, k ≤ n.gates.length → i < k → bAt (affT n l) i = bAt (afFrom 0 (markL (List.replicate n.gates.length false) (inGates n l)) (n.gates.take k)) i := fun k i hk hi => by
    have := from_early hn hl k (n.gates.length - k) (by omega) i hi
    rw [show k + (n.gates.length - k) = n.gates.length by omega, List.take_length] at this
    exact this
  rw [fin (j + 1) j (by omega) (by omega), from_b hn hl hg, if_pos rfl, from_late hn hl j (by omega) j (Nat.le_refl _)]
  congr 1
  rw [Bool.eq_iff_iff, List.any_eq_true, List.any_eq_true]
  constructor
  · rintro ⟨x, hx, hb⟩
    have := (hn.gate j g hg).rd x hx
    exact ⟨x, hx, by rw [fin j x.toNat (by omega) (by omega)]; exact hb⟩
  · rintro ⟨x, hx, hb⟩
    have := (hn.gate j g hg).rd x hx
    exact ⟨x, hx, by rw [fin j x.toNat (by omega) (by omega)] at hb; exact hb⟩
theorem start_aff {n : Nt} {l : List Int} {j : Nat} (hj : j < n.gates.length) : bAt (markL (List.replicate n.gates.length false) (inGates n l)) j = true ↔ (j : Int) ∈ l := by
  rw [mark_b]
  unfold inGates
  constructor
  · rintro (h | ⟨_, x, hx, e⟩)
    · have h := b_some h
      rw [List.getElem?_replicate, if_pos hj] at h
      injection h with h
      cases h
    · rw [List.mem_filter, inb_iff] at hx
      rw [show (j : Int) = x by omega]
      exact hx.1
  · intro h
    refine Or.inr ⟨by simpa using hj, (j : Int), ?_, by omega⟩
    rw [List.mem_filter, inb_iff]
    exact ⟨h, by omega, by omega⟩
end NetAg
end Go.Proofs.Ytgbbpliihglijaa
/- How many gates an update changes and evaluates: no more than are affected, as plain data. Conditions: a valid network. -/
namespace Go.Proofs.Ytgbbpliihglijaa
open Go
namespace NetAf
open LexM TermM NetM NetN NetMk NetOk NetEv NetCo NetBp NetCc NetAg NetDg NetDr NetDc NetTn NetDp NetSb
/-! ### Counts -/
theorem cntp_le_of {p q : Nat → Bool} : ∀ {i : Nat}, (∀ j, j < i → p j = true → q j = true) → cntP p i ≤ cntP q i
  | 0, _ => Nat.le_refl _
  | i + 1, h => by
    have ih := cntp_le_of (p := p) (q := q) (i := i) fun j hj => h j (by omega)
    cases hp : p i
    · rw [cntp_no hp]
      cases hq : q i
      · rw [cntp_no hq]; exact ih
      · rw [cntp_yes hq]; omega
    · rw [cntp_yes hp, cntp_yes (h i (by omega) hp)]
      omega
theorem cntp_add {p q r : Nat → Bool} : ∀ {i : Nat}, (∀ j, j < i → p j = true → r j = true) → (∀ j, j < i → q j = true → r j = true) → (∀ j, j < i → p j = true → q j = false) → cntP p i + cntP q i ≤ cntP r i
  | 0, _, _, _ => Nat.le_refl _
  | i + 1, h1, h2, h3 => by
    have ih := cntp_add (p := p) (q := q) (r := r) (i := i) (fun j hj => h1 j (by omega)) (fun j hj => h2 j (by omega)) (fun j hj => h3 j (by omega))
    cases hp : p i
    · rw [cntp_no hp]
      cases hq : q i
      · rw [cntp_no hq]
        cases hr : r i
        · rw [cntp_no hr]; exact ih
        · rw [cntp_yes hr]; omega
      · rw [cntp_yes hq, cntp_yes (h2 i (by omega) hq)]
        omega
    · rw [cntp_yes hp, cntp_no (h3 i (by omega) hp), cntp_yes (h1 i (by omega) hp)]
      omega
theorem nums_cnt (S : List Bool) : ∀ k, k ≤ S.length → (numsTo S k).length = cntP (fun j => bAt S j) k
  | 0, _ => rfl
  | k + 1, h => by
    have ih := nums_cnt S k (by omega)
    cases hb : bAt S k
    · rw [nums_no (fun e => by rw [b_get e] at hb; cases hb), cntp_no hb, ih]
    · rw [nums_yes (b_some hb), cntp_yes hb, List.length_append, ih]
      rfl
theorem aff_cnt (n : Nt) (l : List Int) : (affN n l).length = cntP (fun j => bAt (affT n l) j) n.gates.length := by
  rw [aff_marks]
  unfold numsOf
  rw [nums_cnt _ _ (Nat.le_refl _), affT_len]
/-! ### Gates of bases and inputs whose bits differ -/
def chgB (n : Nt) (a b c d : Nat) (j : Nat) : Bool := match n.gates[j]? with
  | some g => (decide (g.1 = 2) && (a ^^^ b).testBit g.2.1.toNat) || (decide (g.1 = 3) && (c ^^^ d).testBit g.2.1.toNat)
  | none => false
theorem chg_get {n : Nt} {a b c d j : Nat} {g : Gt} (h : n.gates[j]? = some g) : chgB n a b c d j = ((decide (g.1 = 2) && (a ^^^ b).testBit g.2.1.toNat) || (decide (g.1 = 3) && (c ^^^ d).testBit g.2.1.toNat)) := by
  unfold chgB
  rw [h]
/-- Their numbers, ascending. -/
def chgL (n : Nt) (a b c d : Nat) : Nat → List Int
  | 0 => []
  | k + 1 => if chgB n a b c d k = true then chgL n a b c d k ++ [(k : Int)] else chgL n a b c d k
theorem chg_yes {n : Nt} {a b c d k : Nat} (h : chgB n a b c d k = true) : chgL n a b c d (k + 1) = chgL n a b c d k ++ [(k : Int)] := by
  show (if _ then _ else _) = _
  rw [if_pos h]
theorem chg_no {n : Nt} {a b c d k : Nat} (h : chgB n a b c d k = false) : chgL n a b c d (k + 1) = chgL n a b c d k := by
  show (if _ then _ else _) = _
  rw [if_neg (by rw [h]; decide)]
theorem chg_mem {n : Nt} {a b c d : Nat} : ∀ {k : Nat} {x : Int}, x ∈ chgL n a b c d k ↔ ∃ j : Nat, j < k ∧ x = (j : Int) ∧ chgB n a b c d j = true
  | 0, x => by
    constructor
    · intro h; cases h
    · rintro ⟨j, hj, _⟩; omega
  | k + 1, x => by
    cases hk : chgB n a b c d k
    · rw [chg_no hk, chg_mem]
      constructor
      · rintro ⟨j, hj, e, h⟩
        exact ⟨j, by omega, e, h⟩
      · rintro ⟨j, hj, e, h⟩
        by_cases ej : j = k
        · subst ej
          rw [hk] at h
          cases h
        · exact ⟨j, by omega, e, h⟩
    · rw [chg_yes hk, List.mem_append, chg_mem, List.mem_singleton]
      constructor
      · rintro (⟨j, hj, e, h⟩ | e)
        · exact ⟨j, by omega, e, h⟩
        · exact ⟨k, by omega, e, hk⟩
      · rintro ⟨j, hj, e, h⟩
        by_cases ej : j = k
        · subst ej
          exact Or.inr e
        · exact Or.inl ⟨j, by omega, e, h⟩
theorem chg_cnt {n : Nt} {a b c d : Nat} : ∀ k, (chgL n a b c d k).length = cntP (chgB n a b c d) k
  | 0 => rfl
  | k + 1 => by
    cases hk : chgB n a b c d k
    · rw [chg_no hk, cntp_no hk, chg_cnt k]
    · rw [chg_yes hk, cntp_yes hk, List.length_append, chg_cnt k]
      rfl
theorem chg_le {n : Nt} {a b c d : Nat} (k : Nat) : (chgL n a b c d k).length ≤ k := by
  rw [chg_cnt]
  exact cntp_le _ _
/-! ### What an update changes and evaluates is affected -/
theorem bit_dif {a b m i : Nat} (h : decide ((i : Int) ∈ bitsL a m) ≠ decide ((i : Int) ∈ bitsL b m)) : (a ^^^ b).testBit i = true := by
  rw [Nat.testBit_xor]
  cases ha : a.testBit i <;> cases hb : b.testBit i
  · exact absurd (by rw [Bool.eq_iff_iff, decide_eq_true_eq, decide_eq_true_eq, bits_mem, bits_mem, ha, hb]) h
  · rfl
  · rfl
  · exact absurd (by rw [Bool.eq_iff_iff, decide_eq_true_eq, decide_eq_true_eq, bits_mem, bits_mem, ha, hb]) h
variable {n : Nt} {a b c d : Nat}
theorem dif_aff (hn : NOk n) : ∀ j, j < n.gates.length → dif (valsN (bitsL a n.bases.length) (bitsL c n.inputs.length) n) (valsN (bitsL b n.bases.length) (bitsL d n.inputs.length) n) (j : Int) = true → bAt (affT n (chgL n a b c d n.gates.length)) j = true := by
  intro j
  induction j using Nat.strongRecOn with
  | ind j IH =>
    intro hj hd
    obtain ⟨g, hg⟩ : ∃ g, n.gates[j]? = some g := ⟨n.gates[j], List.getElem?_eq_getElem hj⟩
    have ok := hn.gate j g hg
    rw [aff_fix hn _ hg, Bool.or_eq_true]
    cases hr : rdsB (valsN (bitsL a n.bases.length) (bitsL c n.inputs.length) n) (valsN (bitsL b n.bases.length) (bitsL d n.inputs.length) n) g
    · left
      have e1 : ∀ st ip, vAt (valsN st ip n) (j : Int) = gvN st ip (valsN st ip n) g := fun st ip => v_get (by rw [Int.toNat_natCast]; exact vals_at st ip hn hg)
      have key : (g.1 = 2 ∧ (a ^^^ b).testBit g.2.1.toNat = true) ∨ (g.1 = 3 ∧ (c ^^^ d).testBit g.2.1.toNat = true) := by
        by_cases h2 : g.1 = 2
        · refine Or.inl ⟨h2, ?_⟩
          refine bit_dif (m := n.bases.length) fun e => ?_
          unfold dif at hd
          rw [e1, e1] at hd
          unfold gvN at hd
          rw [if_pos h2, if_pos h2] at hd
          have hx := ok.x0
          rw [show ((g.2.1.toNat : Nat) : Int) = g.2.1 by omega] at e
          rw [e] at hd
          simp at hd
        · by_cases h3 : g.1 = 3
          · refine Or.inr ⟨h3, ?_⟩
            refine bit_dif (m := n.inputs.length) fun e => ?_
            unfold dif at hd
            rw [e1, e1] at hd
            unfold gvN at hd
            rw [if_neg h2, if_pos h3, if_neg h2, if_pos h3] at hd
            have hx := ok.x0
            rw [show ((g.2.1.toNat : Nat) : Int) = g.2.1 by omega] at e
            rw [e] at hd
            simp at hd
          · have := nv_no hn hg h2 h3 hr
            exfalso
            unfold dif vAt at hd
            rw [List.getD_eq_getElem?_getD, List.getD_eq_getElem?_getD, Int.toNat_natCast, this] at hd
            simp at hd
      rw [start_aff hj, chg_mem]
      refine ⟨j, hj, rfl, ?_⟩
      rw [chg_get hg, Bool.or_eq_true, Bool.and_eq_true, Bool.and_eq_true, decide_eq_true_eq, decide_eq_true_eq]
      exact key
    · right
      unfold rdsB at hr
      rw [List.any_eq_true] at hr ⊢
      obtain ⟨x, hx, hb⟩ := hr
      have hxr := ok.rd x hx
      refine ⟨x, hx, IH x.toNat (by omega) (by omega) ?_⟩
      rw [show ((x.toNat : Nat) : Int) = x by omega]
      exact hb
theorem rd_aff (hn : NOk n) {j : Nat} (hj : j < n.gates.length) (h : rdAt (valsN (bitsL a n.bases.length) (bitsL c n.inputs.length) n) (valsN (bitsL b n.bases.length) (bitsL d n.inputs.length) n) n j = true) : bAt (affT n (chgL n a b c d n.gates.length)) j = true ∧ chgB n a b c d j = false := by
  obtain ⟨g, hg⟩ : ∃ g, n.gates[j]? = some g := ⟨n.gates[j], List.getElem?_eq_getElem hj⟩
  have ok := hn.gate j g hg
  rw [rdat_get hg] at h
  have hk := rds_kind ok h
  constructor
  · rw [aff_fix hn _ hg, Bool.or_eq_true]
    right
    unfold rdsB at h
    rw [List.any_eq_true] at h ⊢
    obtain ⟨x, hx, hb⟩ := h
    have hxr := ok.rd x hx
    refine ⟨x, hx, dif_aff hn x.toNat (by omega) ?_⟩
    rw [show ((x.toNat : Nat) : Int) = x by omega]
    exact hb
  · rw [chg_get hg, decide_eq_false (by omega), decide_eq_false (by omega)]
    rfl
/-- The two bounds of P24.6. -/
theorem back_le (hn : NOk n) : wkN (valsN (bitsL a n.bases.length) (bitsL c n.inputs.length) n) (valsN (bitsL b n.bases.length) (bitsL d n.inputs.length) n) n n.gates.length + (chgL n a b c d n.gates.length).length ≤ (affN n (chgL n a b c d n.gates.length)).length := by
  rw [aff_cnt, chg_cnt]
  exact cntp_add (fun j hj h => (rd_aff hn hj h).1) (fun j hj h => by
    obtain ⟨g, hg⟩ : ∃ g, n.gates[j]? = some g := ⟨n.gates[j], List.getElem?_eq_getElem hj⟩
    show bAt (affT n (chgL n a b c d n.gates.length)) j = true
    rw [aff_fix hn _ hg, Bool.or_eq_true]
    left
    rw [start_aff hj, chg_mem]
    exact ⟨j, hj, rfl, h⟩) (fun j hj h => (rd_aff hn hj h).2)
theorem change_le (hn : NOk n) : chN (valsN (bitsL a n.bases.length) (bitsL c n.inputs.length) n) (valsN (bitsL b n.bases.length) (bitsL d n.inputs.length) n) n.gates.length ≤ (affN n (chgL n a b c d n.gates.length)).length := by
  rw [aff_cnt]
  exact cntp_le_of fun j hj h => dif_aff hn j hj h
end NetAf
end Go.Proofs.Ytgbbpliihglijaa
/- The reference's marked: the marked numbers. Condition: at most a million marks. Made by gnNv.py. -/
namespace Go.Proofs.Ytgbbpliihglijaa
open Go Go.RowKit
namespace NetNv
open Kit TermM TermI NetM NetN NetK NetA NetI NetMk NetNu
set_option maxRecDepth 100000 in
set_option maxHeartbeats 3200000 in
theorem marked_any (S : List Bool) (ok : Nat → Prop) (w : World) (v : Value) (h : RowE KB ok w S v) (hk : ∀ b, ok b → b < w.heap.size) (hm : S.length ≤ 1000000) :
    Calls Try.prog 33 #[v] w (NuE S w) := by
  obtain ⟨i0, hi0, hi1, hi2, hi3⟩ := info_parts Try.infoN
  obtain ⟨p, c, rfl⟩ := h.form
  have CA : Hid (∀ (j : Nat) x, S[j]? = some x → ∀ w', Below w.heap.size w w' → ∃ g o, p = some ⟨g, o, none⟩ ∧ w'.cell? ⟨g, o + j, none⟩ = some (.bool x)) := Lib.hid (fun j x hx w' q => by
    obtain ⟨g, o, e1, e2, _, e4⟩ := h.at hx
    refine ⟨g, o, e1, (q.cell (p := ⟨g, _, none⟩) (hk g e2)).trans ?_⟩
    have := e4 0 _ rfl
    simpa [KB] using this)
  clear h hk
  have NS := Lib.hid (nil_own w.heap.size w 3 1)
  have NO : Hid (numsOf S = numsTo S S.length) := Lib.hid rfl
  generalize hn : S.length = n at *
  have HN := Lib.hid hn
  clear hn
  go_enter Try.func33, Try.ntmps33
  go_wp2_with fail
  go_loopw [3, 4] (fun u3 i wr => ∃ (k : Nat) (F : List Int), k ≤ n ∧ i = .int .i64 k ∧ Hid (F = numsTo S k) ∧ Hid (wr.ownsRow w.heap.size 3 1 u3 F.length (NetI.numV F)) ∧ Hid (∀ x ∈ F, I64 x) ∧ Hid (Below w.heap.size w wr)) (fun _ i _ => n - (intOf i).toNat)
  case atStart => exact ⟨0, [], Nat.zero_le _, rfl, Lib.hid rfl, NS, Lib.hid (fun x hx => by cases hx), Lib.hid (Below.refl _ _)⟩
  case round =>
    obtain ⟨k, F, hkn, rfl, hF, hO, hI, hD⟩ := hrel
    obtain ⟨va, vc, rfl⟩ := form1 hO.out
    have hFl : F.length ≤ k := by have := nums_len S k; rw [← hF.out] at this; exact this
    by_cases hlt : k < n
    · obtain ⟨x, hx⟩ : ∃ x, S[k]? = some x := ⟨S[k]'(by rw [HN.out]; exact hlt), by simp⟩
      obtain ⟨g, o, rfl, c1⟩ := CA.out k x hx wr hD.out
      have j0 : (0 : Int) ≤ (k : Int) := by omega
      have j1 : (k : Int) < n := by omega
      have hz3 := hD.out.size
      cases x
      · have F2 : Hid (F = numsTo S (k + 1)) := Lib.hid (by rw [nums_no (by rw [hx]; simp)]; exact hF.out)
        clear hx
        go_wp2_with fail
        go_roundw
        case rel => first | exact ⟨k + 1, F, by omega, by go_num, F2, hO, hI, hD⟩ | ((repeat (apply Exists.intro)); refine ⟨?_, rfl⟩; exact ⟨k + 1, F, by omega, by go_num, F2, hO, hI, hD⟩)
        case measure => simp [intOf]; omega
      · have F2 : Hid (F ++ [(k : Int)] = numsTo S (k + 1)) := Lib.hid (by rw [nums_yes hx, ← hF.out])
        have I2 : Hid (∀ y ∈ F ++ [(k : Int)], I64 y) := Lib.hid (fun y hy => by
          rcases List.mem_append.1 hy with hy | hy
          · exact hI.out y hy
          · rw [List.mem_singleton.1 hy]
            unfold I64
            omega)
        have AA1 : F.length + 1 ≤ maxLen := by unfold maxLen; omega
        have AA2 : (F.length + 1) * 8 ≤ 140737488355328 := by omega
        have AA3 : w.heap.size ≤ (wr.alloc (.cells #[.int .i64 (k : Int)] 3)).heap.size := by simp <;> omega
        clear hx
        go_wp2_with (at_builtin; go_must (refine wpList_append_lies _ rfl _ _ 25 rfl w.heap.size 3 i0 (.int .i64 0) 1 8 Try.underlying25 hi0 hi1 hi2 hi3 rfl (by decide) (.slice va F.length vc) F.length (NetI.numV F) rfl (hO.out.alloc _) ⟨wr.heap.size, 0, none⟩ 1 1 [.int .i64 k] rfl rfl (World.news_of_block (heap_alloc_new wr _)) (one_int k) (by decide) AA1 AA2 AA3 (wr.heap.size + 1) (by simp) ?_; intro g6 c6 w6 hown6 hgrow6 hat6 hlt6; have O6 : Hid (w6.ownsRow w.heap.size 3 1 (.slice (some ⟨g6, 0, none⟩) (F.length + 1) c6) (F ++ [(k : Int)]).length (NetI.numV (F ++ [(k : Int)]))) := Lib.hid (by rw [List.length_append, NetI.numv_app]; exact hown6); have D6 := Lib.hid ((hD.out.alloc hz3 (.cells #[.int .i64 k] 3)).grown hgrow6 (by simp <;> omega) (fun j hj => (hO.out.lt j hj).1)); clear hown6 hgrow6 hat6 hlt6))
        go_roundw
        case rel => first | exact ⟨k + 1, F ++ [(k : Int)], by omega, by go_num, F2, O6, I2, D6⟩ | ((repeat (apply Exists.intro)); refine ⟨?_, rfl⟩; exact ⟨k + 1, F ++ [(k : Int)], by omega, by go_num, F2, O6, I2, D6⟩)
        case measure => simp [intOf]; omega
    · obtain rfl : k = n := by omega
      have R7 := Lib.hid (own_row hO.out hI.out)
      have FE : Hid (F = numsOf S) := Lib.hid (by rw [hF.out, NO.out])
      go_wp2_with fail
      go_ret
      exact NuE.mk (by rw [← FE.out]; exact R7.out) hD.out
end NetNv
end Go.Proofs.Ytgbbpliihglijaa
/- The reference's Affected. Conditions: those of the reference's Check. Made by gnAr.py. -/
namespace Go.Proofs.Ytgbbpliihglijaa
open Go Go.RowKit
namespace NetAr
open Kit LexM TermM TermI TermH NetM NetN NetK NetA NetC NetI NetMk NetNu NetOk NetEv NetBo NetS NetCo NetCc NetAg NetBt
/-- What Affected answers, also of a network that is not valid. -/
def affE (f : Tm → Bool) (n : Nt) (l : List Int) : List Int := if chkN f n = 0 then affN n l else []
theorem aff_no {f : Tm → Bool} {n : Nt} {l : List Int} (h : chkN f n ≠ 0) : affE f n l = [] := by unfold affE; rw [if_neg h]
theorem aff_yes {f : Tm → Bool} {n : Nt} {l : List Int} (h : chkN f n = 0) : affE f n l = numsOf (affT n l) := by unfold affE; rw [if_pos h]; rfl
theorem st_yes {n : Nt} {l : List Int} {S : List Bool} {k : Nat} {x : Int} (h : l[k]? = some x) (hx : 0 ≤ x ∧ x < n.gates.length) : markL S (inGates n (l.take (k + 1))) = mark1 (markL S (inGates n (l.take k))) x := by
  rw [in_next n l h, if_pos (inb_iff.2 hx), mark_app]
  rfl
theorem st_no {n : Nt} {l : List Int} {S : List Bool} {k : Nat} {x : Int} (h : l[k]? = some x) (hx : ¬ (0 ≤ x ∧ x < n.gates.length)) : markL S (inGates n (l.take (k + 1))) = markL S (inGates n (l.take k)) := by
  rw [in_next n l h, if_neg (fun e => hx (inb_iff.1 e))]
theorem step_yes {k : Nat} {S : List Bool} {t : Nat} (h : S[k]? = some true) : (boolV S).set k (.bool true) = boolV (afStep k S (t : Int)) := by
  rw [boolv_set]
  unfold afStep
  rw [b_get h]
  rfl
theorem step_of {k : Nat} {S : List Bool} {t : Nat} {b : Bool} (h : S[k]? = some false) (ht : S[t]? = some b) : (boolV S).set k (.bool b) = boolV (afStep k S (t : Int)) := by
  rw [boolv_set]
  unfold afStep
  rw [b_get h, Int.toNat_natCast, b_get ht]
  rfl
set_option maxRecDepth 100000 in
set_option maxHeartbeats 6400000 in
theorem raff_any (n : Nt) (h : Nh) (l : List Int) (B : Nat) (w : World) (vl : Value) (hB : B ≤ w.heap.size) (k : NetIn (· < B) w n h) (hz : SzN n) (hl : RowE KN (· < B) w l vl) :
    Calls Try.prog 16 #[.agg #[.slice h.gp n.gates.length h.gc, .slice h.rp n.roles.length h.rc, .slice h.bp n.bases.length h.bc, .slice h.ip n.inputs.length h.ic, .slice h.ap n.initial.length h.ac, .slice h.np n.next.length h.nc, .slice h.lp n.legal.length h.lc, .slice h.op n.goals.length h.oc, .slice h.sp n.sees.length h.sc, .int .i64 n.last, .bool n.hid], vl] w (NlE (affE groundB n l) w) := by
  obtain ⟨psl, csl, rfl⟩ := hl.form
  have hll : l.length ≤ maxLen := by obtain ⟨_, h1, h2⟩ := hl.cap; omega
  unfold maxLen at hll
  obtain ⟨W1, hW1⟩ : ∃ z, z = w.alloc (.cells #[.slice h.gp n.gates.length h.gc, .slice h.rp n.roles.length h.rc, .slice h.bp n.bases.length h.bc, .slice h.ip n.inputs.length h.ic, .slice h.ap n.initial.length h.ac, .slice h.np n.next.length h.nc, .slice h.lp n.legal.length h.lc, .slice h.op n.goals.length h.oc, .slice h.sp n.sees.length h.sc, .int .i64 n.last, .bool n.hid] 28) := ⟨_, rfl⟩
  have K1 : Hid (Below w.heap.size w W1) := Lib.hid (by rw [hW1]; exact below_alloc _ _)
  have H1 : Hid (Has W1 w.heap.size (netC n h)) := Lib.hid (by rw [hW1]; exact Has.new _ _ _)
  have hzz := K1.out.size
  have KW := Lib.hid (fun w' (q : Below W1.heap.size W1 w') => show Below w.heap.size w w' from K1.out.trans (q.mono hzz))
  have NK := Lib.hid (fun w' (q : Below W1.heap.size W1 w') => k.deep (KW.out w' q) hB)
  have HQ := Lib.hid (fun w' (q : Below W1.heap.size W1 w') => hasN (H1.out.step0 q))
  have CK := Lib.hid (NetY.rcheck_any n h B W1 (Nat.le_trans hB hzz) (NK.out W1 (Below.refl _ _)) hz.next hz.legal hz.goals hz.seen)
  have OKN : Hid (chkN groundB n = 0 → NOk n) := Lib.hid nok
  have GTS := Lib.hid (fun k g (hg : n.gates[k]? = some g) w' (q : Below W1.heap.size W1 w') => show ∃ v b o, h.gp = some ⟨b, o, none⟩ ∧ b < B ∧ w'.cell? ⟨b, o + k * 3, none⟩ = some (.int .i64 g.1) ∧ w'.cell? ⟨b, o + k * 3 + 1, none⟩ = some (.int .i64 g.2.1) ∧ w'.cell? ⟨b, o + k * 3 + 2, none⟩ = some v ∧ RowE KN (· < B) w' g.2.2 v from by
    obtain ⟨v, b, o, e1, e2, e3, e4⟩ := (NK.out w' q).gates.at hg
    exact ⟨v, b, o, e1, e2, by have := e4 0 _ rfl; simpa [KG] using this, by have := e4 1 _ rfl; simpa [KG] using this, by have := e4 2 _ rfl; simpa [KG] using this, e3.1⟩)
  have HB := Lib.hid hB
  have hlen : n.gates.length ≤ maxLen := by obtain ⟨_, h1, h2⟩ := k.gates.cap; omega
  unfold maxLen at hlen
  have NO : Hid (chkN groundB n ≠ 0 → affE groundB n l = []) := Lib.hid aff_no
  have YES : Hid (chkN groundB n = 0 → affE groundB n l = numsOf (affT n l)) := Lib.hid aff_yes
  have IVS := Lib.hid (readn (hl.keep (w' := W1) fun b o (hb : b < B) => K1.out.cell (p := ⟨b, o, none⟩) (Nat.lt_of_lt_of_le hb hB)) (fun b (hb : b < B) => Nat.lt_of_lt_of_le (Nat.lt_of_lt_of_le hb hB) hzz))
  clear k hz
  generalize affE groundB n l = P at *
  generalize chkN groundB n = ck at *
  generalize h.gp = gpt at *
  have SY := Lib.hid (fun (S : List Bool) k x (hx : l[k]? = some x) (h : 0 ≤ x ∧ x < (n.gates.length : Int)) => st_yes (S := S) hx h)
  have SN := Lib.hid (fun (S : List Bool) k x (hx : l[k]? = some x) (h : ¬ (0 ≤ x ∧ x < (n.gates.length : Int))) => st_no (S := S) hx h)
  have TT : Hid (affT n l = afFrom 0 (markL (List.replicate n.gates.length false) (inGates n (l.take l.length))) (n.gates.take n.gates.length)) := Lib.hid (by rw [List.take_length, List.take_length]; rfl)
  have TL : Hid (∀ k, (markL (List.replicate n.gates.length false) (inGates n (l.take k))).length = n.gates.length) := Lib.hid (fun k => by rw [mark_len]; simp)
  generalize hbl : l.length = lb at *
  have HBL := Lib.hid hbl
  clear hbl hl
  obtain ⟨q1, q2, q3, q4, q5, q6, q7, q8, q9, q10, q11⟩ := HQ.out W1 (Below.refl _ _)
  go_enter Try.func16, Try.ntmps16
  go_upto_region 1 with fail
  rw [← hW1]
  clear hW1
  go_wp2_with fail
  refine CK.out.mono ?_
  rintro e w4 ⟨rfl, g4⟩
  have D4 := Lib.hid (next0 (Below.refl W1.heap.size W1) g4)
  have DD4 := Lib.hid (KW.out _ D4.out)
  clear g4 CK q1 q2 q3 q4 q5 q6 q7 q8 q9 q10 q11
  obtain ⟨q1, q2, q3, q4, q5, q6, q7, q8, q9, q10, q11⟩ := HQ.out w4 D4.out
  by_cases hc : ck = 0
  rotate_left
  · have e0 := Lib.hid (NO.out hc)
    have i1 : (ck != 0) = true := by simp [hc]
    clear NO YES OKN hc
    go_wp2_with fail
    go_ret
    exact NlE.mk (by rw [e0.out]; exact RowE.nil _ _) DD4.out
  have i1 : (ck != 0) = false := by simp [hc]
  have FIN := Lib.hid (YES.out hc)
  have OK := Lib.hid (OKN.out hc)
  have hg16 : n.gates.length ≤ 16384 := OK.out.few
  clear NO YES OKN hc
  obtain ⟨wm, M, O, G⟩ := make_b w4 n.gates.length (by omega)
  have O0 := Lib.hid O
  have B0 := Lib.hid ((Below.refl w4.heap.size w4).grown G (Nat.le_refl _) (fun k h => by cases h))
  have hz7 := DD4.out.size
  have hzB : B ≤ w4.heap.size := Nat.le_trans HB.out hz7
  have HW : Hid (w.heap.size < w4.heap.size) := Lib.hid (by have h1 := H1.out.lt; have h2 := D4.out.size; omega)
  have GT2 := Lib.hid (fun k g (hg : n.gates[k]? = some g) => OK.out.gate k g hg)
  have qm := (HQ.out wm (next0 D4.out B0.out)).1
  clear O G
  generalize hgm : n.gates.length = m at *
  have HM := Lib.hid hgm
  clear hgm
  generalize hg00 : w4.heap.size = g0 at *
  have HG0 := Lib.hid hg00
  clear hg00
  have DW := Lib.hid (fun w' (q : Below g0 w4 w') => show Below W1.heap.size W1 w' from next0 D4.out (by rw [HG0.out]; exact q))
  generalize affT n l = T at *
  have O1 : Hid (wm.ownsRow g0 4 1 (.slice (some ⟨g0, 0, none⟩) m m) m (boolV (markL (List.replicate m false) (inGates n (l.take 0))))) := O0
  clear O0
  go_wp2_with fail
  clear q1 q2 q3 q4 q5 q6 q7 q8 q9 q10 q11 qm M
  go_loopw [6] (fun i wr => ∃ k : Nat, k ≤ lb ∧ i = .int .i64 k ∧ Hid (wr.ownsRow g0 4 1 (.slice (some ⟨g0, 0, none⟩) m m) m (boolV (markL (List.replicate m false) (inGates n (l.take k))))) ∧ Hid (Below g0 w4 wr)) (fun i _ => lb - (intOf i).toNat)
  case atStart => exact ⟨0, Nat.zero_le _, rfl, O1, B0⟩
  case round =>
    obtain ⟨k, hk, rfl, hO, hD⟩ := hrel
    by_cases hlt : k < lb
    · obtain ⟨x, hx⟩ : ∃ x, l[k]? = some x := ⟨l[k]'(by rw [HBL.out]; exact hlt), by simp⟩
      obtain ⟨g', o', rfl, z1⟩ := IVS.out k x hx wr (DW.out _ hD.out)
      have t2 : (0 : Int) ≤ (k : Int) := by omega
      have t3 : (k : Int) < lb := by omega
      by_cases hx0 : 0 ≤ x
      · by_cases hx1 : x < m
        · have E1 := Lib.hid (SY.out (List.replicate m false) k x hx ⟨hx0, hx1⟩)
          obtain ⟨t, rfl⟩ : ∃ t : Nat, x = (t : Int) := ⟨x.toNat, by omega⟩
          have htm : t < m := by omega
          have d0 : decide ((0 : Int) ≤ (t : Int)) = true := decide_eq_true hx0
          have d1 : decide ((t : Int) < (m : Int)) = true := decide_eq_true hx1
          have d2 : decide (t < m) = true := decide_eq_true htm
          obtain ⟨y, hy⟩ : ∃ y, (markL (List.replicate m false) (inGates n (l.take k)))[t]? = some y := ⟨_, List.getElem?_eq_getElem (by rw [TL.out]; exact htm)⟩
          have x1 := (hO.out.cellAt t (by omega)).trans (boolv_get hy)
          have x2 := hO.out.frozenAt t
          have ST := Lib.hid (hO.out.stored t (.bool true))
          have S1 : Hid ((boolV (markL (List.replicate m false) (inGates n (l.take k)))).set t (.bool true) = boolV (markL (List.replicate m false) (inGates n (l.take (k + 1))))) := Lib.hid (by rw [boolv_set, E1.out]; rfl)
          have OO := Lib.hid (S1.out ▸ ST.out.1)
          have BB := Lib.hid (hD.out.grown ST.out.2 (by have := HG0.out; have := hD.out.size; omega) (fun k h => by cases h; exact Nat.le_refl _))
          clear ST S1 E1 hy hx
          go_wp2_with fail
          go_roundw
          case rel => first | exact ⟨k + 1, by omega, by go_num, OO, BB⟩ | ((repeat (apply Exists.intro)); refine ⟨?_, rfl⟩; exact ⟨k + 1, by omega, by go_num, OO, BB⟩)
          case measure => simp [intOf] <;> omega
        · have d0 : decide ((0 : Int) ≤ x) = true := decide_eq_true hx0
          have d1 : decide (x < (m : Int)) = false := decide_eq_false hx1
          have OO : Hid (wr.ownsRow g0 4 1 (.slice (some ⟨g0, 0, none⟩) m m) m (boolV (markL (List.replicate m false) (inGates n (l.take (k + 1)))))) := Lib.hid (by rw [SN.out _ k x hx (by omega)]; exact hO.out)
          clear hx
          go_wp2_with fail
          go_roundw
          case rel => first | exact ⟨k + 1, by omega, by go_num, OO, hD⟩ | ((repeat (apply Exists.intro)); refine ⟨?_, rfl⟩; exact ⟨k + 1, by omega, by go_num, OO, hD⟩)
          case measure => simp [intOf] <;> omega
      · have d0 : decide ((0 : Int) ≤ x) = false := decide_eq_false hx0
        have OO : Hid (wr.ownsRow g0 4 1 (.slice (some ⟨g0, 0, none⟩) m m) m (boolV (markL (List.replicate m false) (inGates n (l.take (k + 1)))))) := Lib.hid (by rw [SN.out _ k x hx (by omega)]; exact hO.out)
        clear hx
        go_wp2_with fail
        go_roundw
        case rel => first | exact ⟨k + 1, by omega, by go_num, OO, hD⟩ | ((repeat (apply Exists.intro)); refine ⟨?_, rfl⟩; exact ⟨k + 1, by omega, by go_num, OO, hD⟩)
        case measure => simp [intOf] <;> omega
    · obtain rfl : k = lb := by omega
      have LS0 : Hid ((markL (List.replicate m false) (inGates n (l.take k))).length = m) := Lib.hid (TL.out k)
      have O2 : Hid (wr.ownsRow g0 4 1 (.slice (some ⟨g0, 0, none⟩) m m) m (boolV (afFrom 0 (markL (List.replicate m false) (inGates n (l.take k))) (n.gates.take 0)))) := Lib.hid (by rw [List.take_zero]; exact hO.out)
      have B2 := Lib.hid hD.out
      clear SY SN TL IVS hO hD
      generalize markL (List.replicate m false) (inGates n (l.take k)) = S0 at *
      generalize hww : wr = wy at *
      clear hww
      have NX := Lib.hid (fun k g (hg : n.gates[k]? = some g) => affrom_next S0 n.gates hg)
      have FL : Hid (∀ k, (afFrom 0 S0 (n.gates.take k)).length = m) := Lib.hid (fun k => by rw [affrom_len]; exact LS0.out)
      go_wp2_with fail
      go_loopw [7] (fun i wr => ∃ k : Nat, k ≤ m ∧ i = .int .i64 k ∧ Hid (wr.ownsRow g0 4 1 (.slice (some ⟨g0, 0, none⟩) m m) m (boolV (afFrom 0 S0 (n.gates.take k)))) ∧ Hid (Below g0 w4 wr)) (fun i _ => m - (intOf i).toNat)
      case atStart => exact ⟨0, Nat.zero_le _, rfl, O2, B2⟩
      case round =>
        obtain ⟨j, hj, rfl, hO, hD⟩ := hrel
        generalize hwo : wr = wo at *
        clear hwo
        have qw := (HQ.out wo (DW.out _ hD.out)).1
        by_cases hjm : j < m
        · obtain ⟨⟨gk, gx, gl⟩, hg⟩ : ∃ g, n.gates[j]? = some g := ⟨n.gates[j]'(by rw [HM.out]; exact hjm), by simp⟩
          obtain ⟨v, b, o, rfl, hbB, _, _, c2, rv⟩ := GTS.out j _ hg wo (DW.out _ hD.out)
          obtain ⟨p, c, rfl⟩ := rv.form
          have hnl : gl.length ≤ maxLen := by obtain ⟨_, h1, h2⟩ := rv.cap; exact Nat.le_trans h1 h2
          unfold maxLen at hnl
          have OKG := Lib.hid (GT2.out j _ hg)
          have NXT := Lib.hid (NX.out j _ hg)
          have IR := Lib.hid (fun i x (hx : gl[i]? = some x) w' (q : Below g0 wo w') => show ∃ g' o', p = some ⟨g', o', none⟩ ∧ w'.cell? ⟨g', o' + i, none⟩ = some (.int .i64 x) from by
            obtain ⟨g', o', e1, e2, _, e4⟩ := rv.at hx
            refine ⟨g', o', e1, (q.cell (p := ⟨g', _, none⟩) (show g' < g0 by have : g' < B := e2; omega)).trans ?_⟩
            have := e4 0 _ rfl
            simpa [KN] using this)
          have C2 := Lib.hid (fun w' (q : Below g0 wo w') => (q.cell (p := ⟨b, o + j * 3 + 2, none⟩) (show b < g0 by omega)).trans c2)
          have HQ1 := Lib.hid (fun w' (q : Below g0 wo w') => (q.cell (p := ⟨w.heap.size, 0, none⟩) HW.out).trans qw)
          have GN := Lib.hid (fun i x (hx : gl[i]? = some x) => afgate_next j (afFrom 0 S0 (n.gates.take j)) gl hx)
          have GL : Hid (∀ i, (afGate j (afFrom 0 S0 (n.gates.take j)) (gl.take i)).length = m) := Lib.hid (fun i => by rw [afgate_len]; exact FL.out j)
          have LAST : Hid (afFrom 0 S0 (n.gates.take (j + 1)) = afGate j (afFrom 0 S0 (n.gates.take j)) (gl.take gl.length)) := Lib.hid (by rw [NXT.out, List.take_length])
          have j2 : (0 : Int) ≤ (j : Int) := by omega
          have j3 : (j : Int) < m := by omega
          have O3 : Hid (wo.ownsRow g0 4 1 (.slice (some ⟨g0, 0, none⟩) m m) m (boolV (afGate j (afFrom 0 S0 (n.gates.take j)) (gl.take 0)))) := Lib.hid (by rw [List.take_zero]; exact hO.out)
          generalize afFrom 0 S0 (n.gates.take j) = S at *
          generalize hgl : gl.length = nl at *
          have HGL := Lib.hid hgl
          clear hgl hg c2 rv NXT hO
          go_wp2_with fail
          clear qw
          go_loopw [8] (fun i wq => ∃ k : Nat, k ≤ nl ∧ i = .int .i64 k ∧ Hid (wq.ownsRow g0 4 1 (.slice (some ⟨g0, 0, none⟩) m m) m (boolV (afGate j S (gl.take k)))) ∧ Hid (Below g0 wo wq)) (fun i _ => nl - (intOf i).toNat)
          case atStart => exact ⟨0, Nat.zero_le _, rfl, O3, Lib.hid (Below.refl _ _)⟩
          case round =>
            generalize hwq : wr = wq at *
            clear hwq
            obtain ⟨k, hk, rfl, hO2, hQ⟩ := hrel
            have q1 := HQ1.out wq hQ.out
            have c2 := C2.out wq hQ.out
            by_cases hlt : k < nl
            · obtain ⟨x, hx⟩ : ∃ x, gl[k]? = some x := ⟨gl[k]'(by rw [HGL.out]; exact hlt), by simp⟩
              obtain ⟨g', o', rfl, c1⟩ := IR.out k x hx wq hQ.out
              have hxr := OKG.out.rd x (List.mem_of_getElem? hx)
              have GNX := Lib.hid (GN.out k x hx)
              obtain ⟨t, rfl⟩ : ∃ t : Nat, x = (t : Int) := ⟨x.toNat, by omega⟩
              have t0 : (0 : Int) ≤ (k : Int) := by omega
              have t1 : (k : Int) < nl := by omega
              have t2 : (0 : Int) ≤ (t : Int) := by omega
              have t3 : (t : Int) < m := by omega
              obtain ⟨sb, hsb⟩ : ∃ sb, (afGate j S (gl.take k))[j]? = some sb := ⟨_, List.getElem?_eq_getElem (by rw [GL.out]; exact hjm)⟩
              obtain ⟨bt, hbt⟩ : ∃ bt, (afGate j S (gl.take k))[t]? = some bt := ⟨_, List.getElem?_eq_getElem (by rw [GL.out]; omega)⟩
              have x0 := (hO2.out.cellAt j (by omega)).trans (boolv_get hsb)
              have x1 := (hO2.out.cellAt t (by omega)).trans (boolv_get hbt)
              have x2 := hO2.out.frozenAt j
              cases sb
              · have SS := Lib.hid (hO2.out.stored j (.bool bt))
                have S1 : Hid ((boolV (afGate j S (gl.take k))).set j (.bool bt) = boolV (afGate j S (gl.take (k + 1)))) := Lib.hid (by rw [step_of hsb hbt, GNX.out])
                have OO2 := Lib.hid (S1.out ▸ SS.out.1)
                have BB2 := Lib.hid (hQ.out.setCell (p := ⟨g0, j, none⟩) (Nat.le_refl _) (.bool bt))
                clear hx hbt hsb hxr SS S1 GNX
                go_wp2_with fail
                go_roundw
                case rel => first | exact ⟨k + 1, by omega, by go_num, OO2, BB2⟩ | ((repeat (apply Exists.intro)); refine ⟨?_, rfl⟩; exact ⟨k + 1, by omega, by go_num, OO2, BB2⟩)
                case measure => simp [intOf] <;> omega
              · have SS := Lib.hid (hO2.out.stored j (.bool true))
                have S1 : Hid ((boolV (afGate j S (gl.take k))).set j (.bool true) = boolV (afGate j S (gl.take (k + 1)))) := Lib.hid (by rw [step_yes (t := t) hsb, GNX.out])
                have OO2 := Lib.hid (S1.out ▸ SS.out.1)
                have BB2 := Lib.hid (hQ.out.setCell (p := ⟨g0, j, none⟩) (Nat.le_refl _) (.bool true))
                clear hx hbt hsb hxr SS S1 GNX
                go_wp2_with fail
                go_roundw
                case rel => first | exact ⟨k + 1, by omega, by go_num, OO2, BB2⟩ | ((repeat (apply Exists.intro)); refine ⟨?_, rfl⟩; exact ⟨k + 1, by omega, by go_num, OO2, BB2⟩)
                case measure => simp [intOf] <;> omega
            · obtain rfl : k = nl := by omega
              have OF : Hid (wq.ownsRow g0 4 1 (.slice (some ⟨g0, 0, none⟩) m m) m (boolV (afFrom 0 S0 (n.gates.take (j + 1))))) := Lib.hid (by rw [LAST.out]; exact hO2.out)
              have DF : Hid (Below g0 w4 wq) := Lib.hid (hD.out.trans hQ.out)
              go_wp2_with fail
              go_roundw
              case rel => first | exact ⟨j + 1, by omega, by go_num, OF, DF⟩ | ((repeat (apply Exists.intro)); refine ⟨?_, rfl⟩; exact ⟨j + 1, by omega, by go_num, OF, DF⟩)
              case measure => simp [intOf] <;> omega
        · obtain rfl : j = m := by omega
          have TS : Hid (T = afFrom 0 S0 (n.gates.take j)) := TT
          have MK := Lib.hid (NetNv.marked_any T (fun b => g0 ≤ b ∧ b < wo.heap.size) wo (.slice (some ⟨g0, 0, none⟩) j j) (by rw [TS.out]; exact own_rowb (by rw [FL.out]; exact hO.out)) (fun b hb => hb.2) (by rw [TS.out, FL.out]; omega))
          unfold NuE at MK
          have DWo := Lib.hid (DW.out _ hD.out)
          go_wp2_with fail
          refine MK.out.mono ?_
          rintro e w7 ⟨v, rfl, r7, g7⟩
          have DF := Lib.hid (KW.out _ (next0 DWo.out g7))
          have hzf : w.heap.size ≤ wo.heap.size := (KW.out _ DWo.out).size
          have R7 := Lib.hid (r7.wide (ok' := fun b => w.heap.size ≤ b ∧ b < w7.heap.size) fun b hb => ⟨Nat.le_trans hzf hb.1, hb.2⟩)
          obtain ⟨p7, c7, rfl⟩ := r7.form
          clear g7 r7 MK qw
          go_wp2_with fail
          go_ret
          exact NlE.mk (by rw [FIN.out]; exact R7.out) DF.out
end NetAr
end Go.Proofs.Ytgbbpliihglijaa
/- Two states that differ outside of a gate's cone give the gate one value, as plain data. Conditions: a valid network with at most 64 bases and inputs. Made by gnCd.py. -/
namespace Go.Proofs.Ytgbbpliihglijaa
open Go
namespace NetCd
open LexM TermM NetM NetN NetMk NetOk NetEv NetCo NetBp NetCc
theorem ix_base {n : Nt} {i : Nat} {g : Gt} (ok : GOk n i g) (h : g.1 = 2) : ∃ ix : Nat, g.2.1 = (ix : Int) ∧ ix < n.bases.length := by
  have h0 := ok.x0
  have hm := ok.xm
  unfold mostIx at hm
  rw [if_pos h] at hm
  exact ⟨g.2.1.toNat, by omega, by omega⟩
theorem ix_input {n : Nt} {i : Nat} {g : Gt} (ok : GOk n i g) (h : g.1 = 3) : ∃ ix : Nat, g.2.1 = (ix : Int) ∧ ix < n.inputs.length := by
  have h0 := ok.x0
  have hm := ok.xm
  unfold mostIx at hm
  rw [if_neg (by omega), if_pos h] at hm
  exact ⟨g.2.1.toNat, by omega, by omega⟩
/-- The bits of some gates' bases fit. -/
theorem ors_fit {n : Nt} (hn : NOk n) (hb : n.bases.length ≤ 64) (hi : n.inputs.length ≤ 64) {l : List Int} (hl : ∀ x ∈ l, 0 ≤ x ∧ x < (n.gates.length : Int)) : orsK n 2 l < 2 ^ 64 ∧ orsK n 3 l < 2 ^ 64 := by
  unfold orsK
  constructor
  · refine ors_lt l 0 (by decide) fun x hx hk => ?_
    have hr := hl x hx
    obtain ⟨t, rfl⟩ : ∃ t : Nat, x = (t : Int) := ⟨x.toNat, by omega⟩
    obtain ⟨g, hg⟩ : ∃ g, n.gates[t]? = some g := ⟨n.gates[t]'(by omega), by simp⟩
    rw [k_get hg] at *
    obtain ⟨ix, e, h⟩ := ix_base (hn.gate t g hg) hk
    omega
  · refine ors_lt l 0 (by decide) fun x hx hk => ?_
    have hr := hl x hx
    obtain ⟨t, rfl⟩ : ∃ t : Nat, x = (t : Int) := ⟨x.toNat, by omega⟩
    obtain ⟨g, hg⟩ : ∃ g, n.gates[t]? = some g := ⟨n.gates[t]'(by omega), by simp⟩
    rw [k_get hg] at *
    obtain ⟨ix, e, h⟩ := ix_input (hn.gate t g hg) hk
    omega
theorem apart_same {n : Nt} (hn : NOk n) (hb : n.bases.length ≤ 64) (hi : n.inputs.length ≤ 64) {a b c d k : Nat} (hk : k < n.gates.length) :
    vAt (valsN (bitsL a n.bases.length) (bitsL b n.inputs.length) n) k = vAt (valsN (bitsL (mixB a c (orsK n 2 (coneN n k))) n.bases.length) (bitsL (mixB b d (orsK n 3 (coneN n k))) n.inputs.length) n) k := by
  obtain ⟨f2, f3⟩ := ors_fit hn hb hi (cone_range (n := n) (g := k))
  refine cone_same hn (i := k) (fun j g hc hg h2 => ?_) (fun j g hc hg h3 => ?_) k hk (cone_self hk)
  · obtain ⟨ix, e, h⟩ := ix_base (hn.gate j g hg) h2
    have hbit := ors_bit (n := n) (kd := 2) (cone_mem.2 hc) (by rw [k_get hg]; exact h2)
    rw [k_get hg, e, Int.toNat_natCast] at hbit
    rw [e, bits_mem, bits_mem, mix_bit f2 hbit]
  · obtain ⟨ix, e, h⟩ := ix_input (hn.gate j g hg) h3
    have hbit := ors_bit (n := n) (kd := 3) (cone_mem.2 hc) (by rw [k_get hg]; exact h3)
    rw [k_get hg, e, Int.toNat_natCast] at hbit
    rw [e, bits_mem, bits_mem, mix_bit f3 hbit]
theorem or_yes {n : Nt} {t : Nat} {g : Gt} {kd : Int} {s ix : Nat} (hg : n.gates[t]? = some g) (hk : g.1 = kd) (hx : g.2.1 = (ix : Int)) : orK n kd s (t : Int) = s ||| 2 ^ ix := by
  unfold orK
  rw [k_get hg, if_pos hk, hx, Int.toNat_natCast]
theorem or_no {n : Nt} {t : Nat} {g : Gt} {kd : Int} {s : Nat} (hg : n.gates[t]? = some g) (hk : g.1 ≠ kd) : orK n kd s (t : Int) = s := by
  unfold orK
  rw [k_get hg, if_neg hk]
theorem or_shift {sn ix : Nat} (hs : sn < 2 ^ 64) (hx : ix < 64) : bits BinOp.or IntKind.u64 (sn : Int) (IntKind.u64.wrap (2 ^ ix)) = ((sn ||| 2 ^ ix : Nat) : Int) := by
  have h1 : (2 : Nat) ^ ix < 2 ^ 64 := Nat.pow_lt_pow_right (by decide) hx
  have e : ((2 : Int) ^ ix) = ((2 ^ ix : Nat) : Int) := by simp
  rw [e, IntKind.wrap_u64]
  obtain ⟨d, hd⟩ : ∃ d, d = (2 : Nat) ^ ix := ⟨_, rfl⟩
  rw [← hd] at h1 ⊢
  rw [show ((d : Int) % 18446744073709551616) = (d : Int) by omega]
  exact bits_or_u64_nat sn d (by omega) (by omega)
theorem or_fit {sn ix : Nat} (hs : sn < 2 ^ 64) (hx : ix < 64) : sn ||| 2 ^ ix < 2 ^ 64 := Nat.or_lt_two_pow hs (Nat.pow_lt_pow_right (by decide) hx)
theorem mix_eq {p q s : Nat} (hp : p < 2 ^ 64) (hq : q < 2 ^ 64) (hs : s < 2 ^ 64) : bits BinOp.or IntKind.u64 (bits BinOp.and IntKind.u64 (p : Int) (s : Int)) (bits BinOp.andNot IntKind.u64 (q : Int) (s : Int)) = (mixB p q s : Int) := by
  rw [bits_and_u64_nat p s (by omega) (by omega), bits_andnot_u64 q s (by omega) (by omega), bits_or_u64_nat _ _ (Nat.lt_of_le_of_lt Nat.and_le_left (by omega)) (Nat.lt_of_le_of_lt Nat.and_le_left (by omega))]
  rfl
end NetCd
end Go.Proofs.Ytgbbpliihglijaa
/- The walk of DeltaBack. No conditions. Made by gnBk.py. -/
namespace Go.Proofs.Ytgbbpliihglijaa
open Go Go.RowKit
namespace NetBk
open Kit TermM TermI TermH NetM NetN NetK NetA NetC NetI NetMk NetNu NetOk NetEv NetBo NetMb NetVv NetS NetDn NetDp NetEm NetLt NetDx NetDw NetDs NetDt NetDe NetEg NetSb NetDz NetBp NetBt NetSl NetSz NetSa NetDa NetLx NetCo NetAg NetAr NetAf
theorem set_some {B ge gb gv : Nat} {st0 ip0 : List Int} {wk : Int} {w : World} (n : Nt) (h : Nh) (a b : Nat) (hck : chkN groundB n = 0) (hbm : n.bases.length ≤ 1000000) (him : n.inputs.length ≤ 1000000) (ha : a < 18446744073709551616 ∧ b < 18446744073709551616) (E : Eg n B ge gb gv st0 ip0 wk w) :
    Calls Try.prog 9 #[.pointer (some ⟨ge, 0, none⟩), .agg (netC n h), .agg #[.int .u64 (a : Int), .int .u64 (b : Int)]] w fun e w'' => ∃ (c : Nat) (wk' : Int), e = .returned (.tuple #[.int .i64 (c : Int), .int .i64 0]) ∧ Hid (Eg n B ge gb gv (bitsL a n.bases.length) (bitsL b n.inputs.length) wk' w'') ∧ Hid (Lt (ex3 ge gb gv) w w'') :=
  (set_law n h a b B ge gb gv st0 ip0 wk w hck hbm him ha.1 ha.2 E).mono fun _ _ h => ⟨_, _, h.1, Lib.hid h.2.1, Lib.hid h.2.2⟩
theorem bit_min {b : Nat} (hb : b < 18446744073709551616) (k : Nat) : (bits BinOp.and IntKind.u64 ((b : Int) / 2 ^ min k 64) 1 == 1) = b.testBit k := by
  rw [bit_test hb]
  by_cases h : k < 64
  · rw [Nat.min_eq_left (by omega)]
  · rw [Nat.min_eq_right (by omega), Nat.testBit_lt_two_pow (show b < 2 ^ 64 from hb), Nat.testBit_lt_two_pow (Nat.lt_of_lt_of_le (show b < 2 ^ 64 from hb) (Nat.pow_le_pow_right (by decide) (by omega)))]
theorem aff_len (n : Nt) (l : List Int) : (affN n l).length ≤ n.gates.length := by
  have h := nums_len (affT n l) (affT n l).length
  have e := affT_len n l
  rw [aff_marks]
  unfold numsOf
  omega
theorem set_to {B ge gb gv : Nat} {k0 : Int} {w : World} (n : Nt) (h : Nh) (a b c d ch wk : Nat) (hck : chkN groundB n = 0) (hbm : n.bases.length ≤ 1000000) (him : n.inputs.length ≤ 1000000) (ha : c < 18446744073709551616 ∧ d < 18446744073709551616)
    (h1 : chN (valsN (bitsL a n.bases.length) (bitsL b n.inputs.length) n) (valsN (bitsL c n.bases.length) (bitsL d n.inputs.length) n) n.gates.length = ch) (h2 : wkN (valsN (bitsL a n.bases.length) (bitsL b n.inputs.length) n) (valsN (bitsL c n.bases.length) (bitsL d n.inputs.length) n) n n.gates.length = wk) (E : Eg n B ge gb gv (bitsL a n.bases.length) (bitsL b n.inputs.length) k0 w) :
    Calls Try.prog 9 #[.pointer (some ⟨ge, 0, none⟩), .agg (netC n h), .agg #[.int .u64 (c : Int), .int .u64 (d : Int)]] w fun e w'' => e = .returned (.tuple #[.int .i64 (ch : Int), .int .i64 0]) ∧ Hid (Eg n B ge gb gv (bitsL c n.bases.length) (bitsL d n.inputs.length) (wk : Int) w'') ∧ Hid (Lt (ex3 ge gb gv) w w'') := by
  subst h1 h2
  exact (set_law n h c d B ge gb gv _ _ k0 w hck hbm him ha.1 ha.2 E).mono fun _ _ h => ⟨h.1, Lib.hid h.2.1, Lib.hid h.2.2⟩
set_option maxRecDepth 100000 in
set_option maxHeartbeats 12800000 in
theorem law (n : Nt) (h : Nh) (a b c d : Nat) (w : World) (k : NetIn (· < w.heap.size) w n h) (ha : a < 18446744073709551616) (hb : b < 18446744073709551616) (hc : c < 18446744073709551616) (hd : d < 18446744073709551616) :
    Calls Try.prog 4 #[.agg #[.slice h.gp n.gates.length h.gc, .slice h.rp n.roles.length h.rc, .slice h.bp n.bases.length h.bc, .slice h.ip n.inputs.length h.ic, .slice h.ap n.initial.length h.ac, .slice h.np n.next.length h.nc, .slice h.lp n.legal.length h.lc, .slice h.op n.goals.length h.oc, .slice h.sp n.sees.length h.sc, .int .i64 n.last, .bool n.hid], .agg #[.int .u64 (a : Int), .int .u64 (b : Int)], .agg #[.int .u64 (c : Int), .int .u64 (d : Int)]] w fun e w' => e = .returned (.bool true) ∧ Below w.heap.size w w' := by
  obtain ⟨i0, hi0, hi1, hi2, hi3⟩ := info_parts Try.infoN
  obtain ⟨W1, hW1⟩ : ∃ z, z = w.alloc (.cells #[.slice h.gp n.gates.length h.gc, .slice h.rp n.roles.length h.rc, .slice h.bp n.bases.length h.bc, .slice h.ip n.inputs.length h.ic, .slice h.ap n.initial.length h.ac, .slice h.np n.next.length h.nc, .slice h.lp n.legal.length h.lc, .slice h.op n.goals.length h.oc, .slice h.sp n.sees.length h.sc, .int .i64 n.last, .bool n.hid] 28) := ⟨_, rfl⟩
  obtain ⟨W2, hW2⟩ : ∃ z, z = W1.alloc (.cells #[.int .u64 (a : Int), .int .u64 (b : Int)] 31) := ⟨_, rfl⟩
  obtain ⟨Wb, hWb⟩ : ∃ z, z = W2.alloc (.cells #[.int .u64 (c : Int), .int .u64 (d : Int)] 31) := ⟨_, rfl⟩
  have K1 : Hid (Below w.heap.size w W1) := Lib.hid (by rw [hW1]; exact below_alloc _ _)
  have K2 : Hid (Below W1.heap.size W1 W2) := Lib.hid (by rw [hW2]; exact below_alloc _ _)
  have K3 : Hid (Below W2.heap.size W2 Wb) := Lib.hid (by rw [hWb]; exact below_alloc _ _)
  have hz1 : W1.heap.size = w.heap.size + 1 := by rw [hW1]; simp
  have hz2 : W2.heap.size = w.heap.size + 2 := by rw [hW2]; simp [hz1]
  have BB : Hid (Below w.heap.size w Wb) := Lib.hid (next0 (next0 K1.out K2.out) K3.out)
  have H1 : Hid (Has Wb w.heap.size (netC n h)) := Lib.hid (by rw [hWb, hW2, hW1]; exact ((Has.new _ _ _).alloc _).alloc _)
  have H2 : Hid (Has Wb (w.heap.size + 1) #[.int .u64 (a : Int), .int .u64 (b : Int)]) := Lib.hid (by rw [hWb, hW2, ← hz1]; exact (Has.new _ _ _).alloc _)
  have H3 : Hid (Has Wb (w.heap.size + 1 + 1) #[.int .u64 (c : Int), .int .u64 (d : Int)]) := Lib.hid (by rw [hWb, show w.heap.size + 1 + 1 = W2.heap.size by omega]; exact Has.new _ _ _)
  have hzB := BB.out.size
  have KW := Lib.hid (fun w' (q : Below Wb.heap.size Wb w') => show Below w.heap.size w w' from BB.out.trans (q.mono hzB))
  have NK := Lib.hid (fun w' (q : Below Wb.heap.size Wb w') => k.deep (KW.out w' q) (Nat.le_refl _))
  have HQ := Lib.hid (fun w' (q : Below Wb.heap.size Wb w') => hasN (H1.out.step0 q))
  have HP := Lib.hid (fun w' (q : Below Wb.heap.size Wb w') => show w'.cell? ⟨w.heap.size + 1, 0, none⟩ = some (.int .u64 (a : Int)) ∧ w'.cell? ⟨w.heap.size + 1, 1, none⟩ = some (.int .u64 (b : Int)) from ⟨(H2.out.step0 q).cell 0, (H2.out.step0 q).cell 1⟩)
  have HR := Lib.hid (fun w' (q : Below Wb.heap.size Wb w') => show w'.cell? ⟨w.heap.size + 1 + 1, 0, none⟩ = some (.int .u64 (c : Int)) ∧ w'.cell? ⟨w.heap.size + 1 + 1, 1, none⟩ = some (.int .u64 (d : Int)) from ⟨(H3.out.step0 q).cell 0, (H3.out.step0 q).cell 1⟩)
  have SM := Lib.hid (fun w' (q : Below Wb.heap.size Wb w') => NetSl.law_small n h w.heap.size w' (KW.out w' q).size (NK.out w' q))
  have CR := Lib.hid (fun (hz : SzN n) w' (q : Below Wb.heap.size Wb w') => NetY.rcheck_any n h w.heap.size w' (KW.out w' q).size (NK.out w' q) hz.next hz.legal hz.goals hz.seen)
  have NW := Lib.hid (fun w' (q : Below Wb.heap.size Wb w') => (NK.out w' q).wide fun b hb => Nat.lt_of_lt_of_le hb (KW.out w' q).size)
  have GTS := Lib.hid (fun k g (hg : n.gates[k]? = some g) w' (q : Below Wb.heap.size Wb w') => show ∃ pi ci b o, h.gp = some ⟨b, o, none⟩ ∧ w'.cell? ⟨b, o + k * 3, none⟩ = some (.int .i64 g.1) ∧ w'.cell? ⟨b, o + k * 3 + 1, none⟩ = some (.int .i64 g.2.1) ∧ w'.cell? ⟨b, o + k * 3 + 2, none⟩ = some (.slice pi g.2.2.length ci) from by
    obtain ⟨v, b, o, e1, e2, e3, e4⟩ := (NK.out w' q).gates.at hg
    obtain ⟨pi, ci, ev⟩ : ∃ p c, v = .slice p g.2.2.length c := RowE.form e3.1
    subst ev
    exact ⟨pi, ci, b, o, e1, by have := e4 0 _ rfl; simpa [KG] using this, by have := e4 1 _ rfl; simpa [KG] using this, by have := e4 2 _ rfl; simpa [KG] using this⟩)
  have AB := Lib.hid (And.intro ha hb)
  have CD := Lib.hid (And.intro hc hd)
  have D0 : Hid (Below Wb.heap.size Wb Wb) := Lib.hid (Below.refl _ _)
  obtain ⟨ac, hac⟩ : ∃ ac, ac = a ^^^ c := ⟨_, rfl⟩
  obtain ⟨bd, hbd⟩ : ∃ bd, bd = b ^^^ d := ⟨_, rfl⟩
  have XA : Hid (bits BinOp.xor IntKind.u64 (a : Int) (c : Int) = (ac : Int)) := Lib.hid (by rw [hac]; exact bits_xor_u64_nat a c ha hc)
  have XB : Hid (bits BinOp.xor IntKind.u64 (b : Int) (d : Int) = (bd : Int)) := Lib.hid (by rw [hbd]; exact bits_xor_u64_nat b d hb hd)
  have BA := Lib.hid (fun i => bit_min (b := ac) (by rw [hac]; exact Nat.xor_lt_two_pow (n := 64) ha hc) i)
  have BBt := Lib.hid (fun i => bit_min (b := bd) (by rw [hbd]; exact Nat.xor_lt_two_pow (n := 64) hb hd) i)
  have CG := Lib.hid (fun (j : Nat) (g : Gt) (hg : n.gates[j]? = some g) => show chgB n a c b d j = ((decide (g.1 = 2) && ac.testBit g.2.1.toNat) || (decide (g.1 = 3) && bd.testBit g.2.1.toNat)) from by rw [chg_get hg, hac, hbd])
  clear k NK ha hb hc hd K1 K2 K3 hac hbd
  generalize hchk : chkN groundB n = ck at *
  have HCK := Lib.hid hchk
  clear hchk
  have HZ1 := Lib.hid hz1
  have HZ2 := Lib.hid hz2
  clear hz1 hz2
  go_enter Try.func4, Try.ntmps4
  go_upto_region 1 with fail
  have e1 := HZ1.out
  have e2 := HZ2.out
  rw [← hW1, ← hW2, ← hWb]
  clear hWb hW1 hW2 e1 e2
  have C1 := Lib.hid (SM.out Wb D0.out)
  obtain ⟨q1, q2, q3, q4, q5, q6, q7, q8, q9, q10, q11⟩ := HQ.out Wb D0.out
  go_wp2_with fail
  refine C1.out.mono ?_
  rintro e w1 ⟨b1, rfl, s1, g1⟩
  have J1 : Hid (Below Wb.heap.size Wb w1) := Lib.hid g1
  have D1 : Hid (Below Wb.heap.size Wb w1) := Lib.hid (next0 D0.out g1)
  have S1 := Lib.hid s1
  clear s1
  clear g1 C1 q1 q2 q3 q4 q5 q6 q7 q8 q9 q10 q11
  cases b1
  · have C2 := Lib.hid (alive_any w1)
    go_wp2_with fail
    refine C2.out.mono ?_
    rintro e w2 ⟨rfl, g2⟩
    have J2 : Hid (Below w1.heap.size w1 w2) := Lib.hid g2
    have D2 : Hid (Below Wb.heap.size Wb w2) := Lib.hid (next0 D1.out g2)
    clear g2 C2
    have DF := Lib.hid (KW.out _ D2.out)
    go_wp2_with fail
    go_ret
    exact ⟨rfl, DF.out⟩
  have ZN := Lib.hid (sz_of (S1.out rfl))
  clear S1
  have C2 := Lib.hid (CR.out ZN.out w1 D1.out)
  obtain ⟨q1, q2, q3, q4, q5, q6, q7, q8, q9, q10, q11⟩ := HQ.out w1 D1.out
  go_wp2_with fail
  refine C2.out.mono ?_
  rintro e w2 ⟨rfl, g2⟩
  have J2 : Hid (Below w1.heap.size w1 w2) := Lib.hid g2
  have D2 : Hid (Below Wb.heap.size Wb w2) := Lib.hid (next0 D1.out g2)
  clear g2 C2 q1 q2 q3 q4 q5 q6 q7 q8 q9 q10 q11
  by_cases hc : ck = 0
  rotate_left
  · have i1 : (ck != 0) = true := by simp [hc]
    clear hc
    have C3 := Lib.hid (alive_any w2)
    go_wp2_with fail
    refine C3.out.mono ?_
    rintro e w3 ⟨rfl, g3⟩
    have J3 : Hid (Below w2.heap.size w2 w3) := Lib.hid g3
    have D3 : Hid (Below Wb.heap.size Wb w3) := Lib.hid (next0 D2.out g3)
    clear g3 C3
    have DF := Lib.hid (KW.out _ D3.out)
    go_wp2_with fail
    go_ret
    exact ⟨rfl, DF.out⟩
  have i1 : (ck != 0) = false := by simp [hc]
  have CKN : Hid (chkN groundB n = 0) := Lib.hid (HCK.out.trans hc)
  clear hc HCK CR SM
  have OK := Lib.hid (nok CKN.out)
  have hnb : Hid (n.bases.length ≤ 1000000) := Lib.hid (by have := OK.out.next; have := ZN.out.next; omega)
  have hni : Hid (n.inputs.length ≤ 1000000) := Lib.hid (by have := OK.out.legal; have := ZN.out.legal; omega)
  have hng : Hid (n.gates.length ≤ 1000000) := Lib.hid (by have := OK.out.few; omega)
  have NE := Lib.hid (fun w' (q : Below Wb.heap.size Wb w') => new_eg h (NW.out w' q) ZN.out CKN.out)
  have C3 := Lib.hid (NE.out w2 D2.out)
  obtain ⟨q1, q2, q3, q4, q5, q6, q7, q8, q9, q10, q11⟩ := HQ.out w2 D2.out
  go_wp2_with fail
  refine C3.out.mono ?_
  rintro e w3 ⟨ge, gb, gv, rfl, hE, g3⟩
  have E3 := Lib.hid hE
  have D3 : Hid (Below Wb.heap.size Wb w3) := Lib.hid (next0 D2.out g3)
  have J3 : Hid (Below w2.heap.size w2 w3) := Lib.hid g3
  have GL := Lib.hid (Eg.lts hE)
  clear hE g3 C3 NE i1 q1 q2 q3 q4 q5 q6 q7 q8 q9 q10 q11
  have WB2 : Hid (Wb.heap.size ≤ w2.heap.size) := Lib.hid D2.out.size
  have W23 : Hid (w2.heap.size ≤ w3.heap.size) := Lib.hid J3.out.size
  have LD := Lib.hid (fun (x y : World) (st0 ip0 : List Int) (k0 : Int) (e : Eg n w2.heap.size ge gb gv st0 ip0 k0 x) (hx : w2.heap.size ≤ x.heap.size) (l : Lt (ex3 ge gb gv) x y) (d : Below Wb.heap.size Wb x) => show Below Wb.heap.size Wb y from d.trans ((e.lt hx l).mono WB2.out))
  have SZ3 : Hid (w2.heap.size ≤ w3.heap.size) := W23
  obtain ⟨ch, hch⟩ : ∃ z, chN (valsN (bitsL a n.bases.length) (bitsL b n.inputs.length) n) (valsN (bitsL c n.bases.length) (bitsL d n.inputs.length) n) n.gates.length = z := ⟨_, rfl⟩
  obtain ⟨wk, hwk⟩ : ∃ z, wkN (valsN (bitsL a n.bases.length) (bitsL b n.inputs.length) n) (valsN (bitsL c n.bases.length) (bitsL d n.inputs.length) n) n n.gates.length = z := ⟨_, rfl⟩
  obtain ⟨L, hL⟩ : ∃ z, z = chgL n a c b d n.gates.length := ⟨_, rfl⟩
  have F1 : Hid (wk + L.length ≤ (affN n L).length) := Lib.hid (by rw [← hwk, hL]; exact back_le OK.out)
  have F2 : Hid (ch ≤ (affN n L).length) := Lib.hid (by rw [← hch, hL]; exact change_le OK.out)
  have HL := Lib.hid hL
  have HCH := Lib.hid hch
  have HWK := Lib.hid hwk
  have HCH' := Lib.hid ((ch_comm _ _ _).trans hch)
  have HWK' := Lib.hid ((wk_comm _ _ _ _).trans hwk)
  clear hch hwk hL
  have C5 := Lib.hid (set_some (w := w3) n h a b CKN.out hnb.out hni.out AB.out E3.out)
  obtain ⟨q1, q2, q3, q4, q5, q6, q7, q8, q9, q10, q11⟩ := HQ.out w3 D3.out
  obtain ⟨y1, y2⟩ := HP.out w3 D3.out
  obtain ⟨z1, z2⟩ := HR.out w3 D3.out
  go_wp2_with fail
  refine C5.out.mono ?_
  rintro e w5 ⟨c5, k5, rfl, E5, T5⟩
  have D5 : Hid (Below Wb.heap.size Wb w5) := Lib.hid (LD.out _ _ _ _ _ E3.out SZ3.out T5.out D3.out)
  have SZ5 : Hid (w2.heap.size ≤ w5.heap.size) := Lib.hid (Nat.le_trans SZ3.out T5.out.size)
  clear C5 T5 y1 y2 z1 z2 q1 q2 q3 q4 q5 q6 q7 q8 q9 q10 q11
  have C6 := Lib.hid (set_to (w := w5) n h a b c d ch wk CKN.out hnb.out hni.out CD.out HCH.out HWK.out E5.out)
  obtain ⟨q1, q2, q3, q4, q5, q6, q7, q8, q9, q10, q11⟩ := HQ.out w5 D5.out
  obtain ⟨y1, y2⟩ := HP.out w5 D5.out
  obtain ⟨z1, z2⟩ := HR.out w5 D5.out
  go_wp2_with fail
  refine C6.out.mono ?_
  rintro e w6 ⟨rfl, E6, T6⟩
  have D6 : Hid (Below Wb.heap.size Wb w6) := Lib.hid (LD.out _ _ _ _ _ E5.out SZ5.out T6.out D5.out)
  have SZ6 : Hid (w2.heap.size ≤ w6.heap.size) := Lib.hid (Nat.le_trans SZ5.out T6.out.size)
  clear C6 T6 y1 y2 z1 z2 q1 q2 q3 q4 q5 q6 q7 q8 q9 q10 q11
  have WX := Lib.hid (work_eg E6.out)
  go_wp2_with fail
  refine WX.out.mono ?_
  rintro e w7 ⟨rfl, rfl⟩
  clear WX
  have C8 := Lib.hid (set_to (w := w6) n h c d a b ch wk CKN.out hnb.out hni.out AB.out HCH'.out HWK'.out E6.out)
  obtain ⟨q1, q2, q3, q4, q5, q6, q7, q8, q9, q10, q11⟩ := HQ.out w6 D6.out
  obtain ⟨y1, y2⟩ := HP.out w6 D6.out
  obtain ⟨z1, z2⟩ := HR.out w6 D6.out
  go_wp2_with fail
  refine C8.out.mono ?_
  rintro e w8 ⟨rfl, E8, T8⟩
  have D8 : Hid (Below Wb.heap.size Wb w8) := Lib.hid (LD.out _ _ _ _ _ E6.out SZ6.out T8.out D6.out)
  have SZ8 : Hid (w2.heap.size ≤ w8.heap.size) := Lib.hid (Nat.le_trans SZ6.out T8.out.size)
  clear C8 T8 y1 y2 z1 z2 q1 q2 q3 q4 q5 q6 q7 q8 q9 q10 q11
  have WX := Lib.hid (work_eg E8.out)
  go_wp2_with fail
  refine WX.out.mono ?_
  rintro e w9 ⟨rfl, rfl⟩
  clear WX E3 E5 E6 E8 D3 D5 D6 SZ3 SZ5 SZ6 SZ8 HCH HWK HCH' HWK'
  have HM16 : Hid (n.gates.length ≤ 16384) := Lib.hid OK.out.few
  have GK := Lib.hid (fun k g (hg : n.gates[k]? = some g) => OK.out.gate k g hg)
  have IB := Lib.hid (fun (k : Nat) (g : Gt) (hg : n.gates[k]? = some g) (e : g.1 = 2) => NetCd.ix_base (OK.out.gate k g hg) e)
  have II := Lib.hid (fun (k : Nat) (g : Gt) (hg : n.gates[k]? = some g) (e : g.1 = 3) => NetCd.ix_input (OK.out.gate k g hg) e)
  have CL := Lib.hid (fun k => chg_le (n := n) (a := a) (b := c) (c := b) (d := d) k)
  have CY := Lib.hid (fun k (h : chgB n a c b d k = true) => chg_yes h)
  have CN := Lib.hid (fun k (h : chgB n a c b d k = false) => chg_no h)
  have NS := Lib.hid (nil_own w8.heap.size w8 3 1)
  have BS0 : Hid (Below w8.heap.size w8 w8) := Lib.hid (Below.refl _ _)
  generalize hgpt : h.gp = gpt at *
  have HGPT := Lib.hid hgpt
  clear hgpt
  generalize hgm : n.gates.length = m at *
  have HM := Lib.hid hgm
  clear hgm
  have hm16 : m ≤ 16384 := HM16.out
  go_wp2_with fail
  go_loopw [15, 16] (fun u3 i wr => ∃ (k : Nat) (F : List Int), k ≤ m ∧ i = .int .i64 k ∧ Hid (F = chgL n a c b d k) ∧ Hid (wr.ownsRow w8.heap.size 3 1 u3 F.length (NetI.numV F)) ∧ Hid (∀ x ∈ F, I64 x) ∧ Hid (Below w8.heap.size w8 wr)) (fun _ i _ => m - (intOf i).toNat)
  case atStart => exact ⟨0, [], Nat.zero_le _, rfl, Lib.hid rfl, NS, Lib.hid (fun x hx => by cases hx), BS0⟩
  case round =>
    obtain ⟨k, F, hkm, rfl, hF, hO, hI, hD⟩ := hrel
    obtain ⟨va, vc, rfl⟩ := form1 hO.out
    have hFl : F.length ≤ k := by have := CL.out k; rw [← hF.out] at this; exact this
    generalize hwo : wr = wo at *
    clear hwo
    have DW := Lib.hid (next0 D8.out hD.out)
    have q1 := (HQ.out wo DW.out).1
    by_cases hlt : k < m
    · obtain ⟨⟨gk, gx, gl⟩, hg⟩ : ∃ g, n.gates[k]? = some g := ⟨n.gates[k]'(by rw [HM.out]; exact hlt), by simp⟩
      obtain ⟨pi, ci, b', o, rfl, c0, c1, c2⟩ := GTS.out k _ hg wo DW.out
      have CGK := Lib.hid (CG.out k _ hg)
      have IBK := Lib.hid (IB.out k _ hg)
      have IIK := Lib.hid (II.out k _ hg)
      dsimp only at c0 c1 c2 CGK IBK IIK
      generalize gl.length = ll at *
      obtain ⟨CB, hCB⟩ : ∃ z, chgB n a c b d k = z := ⟨_, rfl⟩
      have HCB := Lib.hid hCB
      rw [hCB] at CGK
      clear hCB hg
      have j0 : (0 : Int) ≤ (k : Int) := by omega
      have j1 : (k : Int) < m := by omega
      obtain ⟨W3, hW3⟩ : ∃ z, z = wo.alloc (.cells #[.int .i64 gk, .int .i64 gx, .slice pi ll ci] 51) := ⟨_, rfl⟩
      have J3 : Hid (Below wo.heap.size wo W3) := Lib.hid (by rw [hW3]; exact below_alloc _ _)
      have H3' : Has W3 wo.heap.size #[.int .i64 gk, .int .i64 gx, .slice pi ll ci] := by rw [hW3]; exact Has.new _ _ _
      have y0 := H3'.cell 0
      have y1 := H3'.cell 1
      have O3 := Lib.hid (own_below hO.out J3.out)
      have D3' : Hid (Below w8.heap.size w8 W3) := Lib.hid (next0 hD.out J3.out)
      have DW3 := Lib.hid (next0 D8.out D3'.out)
      obtain ⟨pa, pb⟩ := HP.out W3 DW3.out
      obtain ⟨ra, rb⟩ := HR.out W3 DW3.out
      clear H3'
      go_upto_region 18 with fail
      rw [← hW3]
      clear hW3 c0 c1 c2
      go_cut [113] (fun s wx => s = .bool CB ∧ W3 = wx)
      case first =>
        have xa := XA.out
        have xb := XB.out
        by_cases h2 : gk = 2
        · obtain ⟨ix, e, hix⟩ := IBK.out h2
          subst e
          have i2 : (gk == 2) = true := by simp [h2]
          have i3 : (gk == 3) = false := by simp [h2]
          have x0 : (0 : Int) ≤ (ix : Int) := by omega
          have BT := BA.out ix
          obtain ⟨tb, htb⟩ : ∃ z, ac.testBit ix = z := ⟨_, rfl⟩
          rw [htb] at BT
          have ECB : Hid (CB = tb) := Lib.hid (by rw [CGK.out, Int.toNat_natCast, htb, h2]; simp)
          clear h2 htb
          cases tb
          · go_wp2_with fail
            go_meet
            exact ⟨by rw [ECB.out], rfl⟩
          · go_wp2_with fail
            go_meet
            exact ⟨by rw [ECB.out], rfl⟩
        · have i2 : (gk == 2) = false := by simp [h2]
          by_cases h3 : gk = 3
          · obtain ⟨ix, e, hix⟩ := IIK.out h3
            subst e
            have i3 : (gk == 3) = true := by simp [h3]
            have x0 : (0 : Int) ≤ (ix : Int) := by omega
            have BT := BBt.out ix
            obtain ⟨tb, htb⟩ : ∃ z, bd.testBit ix = z := ⟨_, rfl⟩
            rw [htb] at BT
            have ECB : Hid (CB = tb) := Lib.hid (by rw [CGK.out, Int.toNat_natCast, htb, h3]; simp)
            clear h2 h3 htb
            cases tb
            · go_wp2_with fail
              go_meet
              exact ⟨by rw [ECB.out], rfl⟩
            · go_wp2_with fail
              go_meet
              exact ⟨by rw [ECB.out], rfl⟩
          · have i3 : (gk == 3) = false := by simp [h3]
            have ECB : Hid (CB = false) := Lib.hid (by rw [CGK.out, decide_eq_false h2, decide_eq_false h3]; rfl)
            clear h2 h3
            go_wp2_with fail
            go_meet
            exact ⟨by rw [ECB.out], rfl⟩
      case rest =>
      obtain ⟨rfl, rfl⟩ := hcut
      clear CGK IBK IIK y0 y1 pa pb ra rb
      cases CB
      · have F2 : Hid (F = chgL n a c b d (k + 1)) := Lib.hid (by rw [CN.out k HCB.out]; exact hF.out)
        clear HCB q1
        go_wp2_with fail
        go_roundw
        case rel => first | exact ⟨k + 1, F, by omega, by go_num, F2, O3, hI, D3'⟩ | ((repeat (apply Exists.intro)); refine ⟨?_, rfl⟩; exact ⟨k + 1, F, by omega, by go_num, F2, O3, hI, D3'⟩)
        case measure => simp [intOf] <;> omega
      · have F2 : Hid (F ++ [(k : Int)] = chgL n a c b d (k + 1)) := Lib.hid (by rw [CY.out k HCB.out, ← hF.out])
        have I2 : Hid (∀ y ∈ F ++ [(k : Int)], I64 y) := Lib.hid (fun y hy => by
          rcases List.mem_append.1 hy with hy | hy
          · exact hI.out y hy
          · rw [List.mem_singleton.1 hy]
            unfold I64
            omega)
        have hz3 := D3'.out.size
        have AA1 : F.length + 1 ≤ maxLen := by unfold maxLen; omega
        have AA2 : (F.length + 1) * 8 ≤ 140737488355328 := by omega
        have AA3 : w8.heap.size ≤ (W3.alloc (.cells #[.int .i64 (k : Int)] 3)).heap.size := by simp <;> omega
        clear HCB q1
        go_wp2_with (at_builtin; go_must (refine wpList_append_lies _ rfl _ _ 25 rfl w8.heap.size 3 i0 (.int .i64 0) 1 8 Try.underlying25 hi0 hi1 hi2 hi3 rfl (by decide) (.slice va F.length vc) F.length (NetI.numV F) rfl (O3.out.alloc _) ⟨W3.heap.size, 0, none⟩ 1 1 [.int .i64 k] rfl rfl (World.news_of_block (heap_alloc_new W3 _)) (one_int k) (by decide) AA1 AA2 AA3 (W3.heap.size + 1) (by simp) ?_; intro g6 c6 w6 hown6 hgrow6 hat6 hlt6; have O6 : Hid (w6.ownsRow w8.heap.size 3 1 (.slice (some ⟨g6, 0, none⟩) (F.length + 1) c6) (F ++ [(k : Int)]).length (NetI.numV (F ++ [(k : Int)]))) := Lib.hid (by rw [List.length_append, NetI.numv_app]; exact hown6); have D6 := Lib.hid ((D3'.out.alloc hz3 (.cells #[.int .i64 k] 3)).grown hgrow6 (by simp <;> omega) (fun j hj => (O3.out.lt j hj).1)); clear hown6 hgrow6 hat6 hlt6))
        go_roundw
        case rel => first | exact ⟨k + 1, F ++ [(k : Int)], by omega, by go_num, F2, O6, I2, D6⟩ | ((repeat (apply Exists.intro)); refine ⟨?_, rfl⟩; exact ⟨k + 1, F ++ [(k : Int)], by omega, by go_num, F2, O6, I2, D6⟩)
        case measure => simp [intOf] <;> omega
    · obtain rfl : k = m := by omega
      have FE : Hid (F = L) := Lib.hid (by rw [hF.out, HL.out])
      have R7 := Lib.hid ((own_row hO.out hI.out).wide (ok' := (· < wo.heap.size)) fun b hb => hb.2)
      rw [FE.out] at R7
      have EL : Hid (F.length = L.length) := Lib.hid (by rw [FE.out])
      have CA := Lib.hid (raff_any n h L wo.heap.size wo _ (Nat.le_refl _) (NW.out wo DW.out) ZN.out R7.out)
      have EA : Hid (affE groundB n L = affN n L) := Lib.hid (by unfold affE; rw [if_pos CKN.out])
      rw [EA.out, HGPT.out, HM.out] at CA
      unfold NlE at CA
      have LI : Hid (F.length ≤ 1000000) := Lib.hid (by omega)
      have f1 := F1.out
      have f2 := F2.out
      have AL : Hid ((affN n L).length ≤ k) := Lib.hid (by rw [← HM.out]; exact aff_len n L)
      have hlen : F.length = L.length := EL.out
      have HBT := Lib.hid (by omega : (L.length : Int) ≤ 1000000)
      clear hlen
      rw [EL.out]
      generalize L.length = lL at *
      clear q1
      obtain ⟨q1, q2, q3, q4, q5, q6, q7, q8, q9, q10, q11⟩ := HQ.out wo DW.out
      go_wp2_with fail
      refine CA.out.mono ?_
      rintro e w9 ⟨v9, rfl, r9, g9⟩
      obtain ⟨p9, c9, rfl⟩ := r9.form
      have D9 := Lib.hid (next0 DW.out g9)
      clear r9 g9 CA q1 q2 q3 q4 q5 q6 q7 q8 q9 q10 q11
      generalize hAL : (affN n L).length = lA at *
      clear hAL
      have CA := Lib.hid (alive_any w9)
      go_wp2_with fail
      refine CA.out.mono ?_
      rintro e w10 ⟨rfl, g10⟩
      have DF := Lib.hid (KW.out _ (next0 D9.out g10))
      clear g10 CA
      have a1 := AL.out
      have b1 : -9223372036854775808 ≤ (lA : Int) - (lL : Int) := by omega
      have b2 : (lA : Int) - (lL : Int) ≤ 9223372036854775807 := by omega
      have b3 : (wk : Int) ≤ (lA : Int) - (lL : Int) := by omega
      have b4 : (ch : Int) ≤ (lA : Int) := by omega
      go_wp2_with fail
      go_ret
      exact ⟨rfl, DF.out⟩
end NetBk
end Go.Proofs.Ytgbbpliihglijaa
/- DeltaBack: for all networks and points the law that an engine set to and back changes as much each time returns true. No conditions. -/
namespace Go.Proofs.Ytgbbpliihglijaa.deltaBack
open Go Go.ChangeShapes Go.WideShapes Go.ChangeAt Go.RowKit
open Go.Proofs.Ytgbbpliihglijaa Go.Proofs.Ytgbbpliihglijaa.Kit

theorem own : ownKnob Try.prog.godebug = none := by kernel_rfl
theorem laidOut : laidOutB Try.prog = true := by kernel_rfl
theorem hpar : ∀ t ∈ Try.f4.params.toList, Try.prog.readableRec t = true ∧ t < Try.prog.types.size := by
  have hq : ∀ t ∈ [28, 31, 31], Try.prog.readableRec t = true ∧ t < Try.prog.types.size := by
    intro t ht
    simp at ht
    rcases ht with rfl | rfl
    all_goals exact ⟨by kernel_rfl, of_decide_eq_true (by kernel_rfl)⟩
  rw [Try.params4]
  exact hq
theorem hrt : Try.f4.resultTypes = #[4] := by kernel_rfl
set_option maxRecDepth 100000 in
theorem lifted (os : Os) (started : os.Started) (H : Type) (enc : TypeId × Value → H) :
    ReturnsInHanded {} Try.checked os 4 .any (Rows.deltaBackSpec.pre6 enc Try.prog Try.f4 Rows.deltaBackRow.domain false) (Rows.deltaBackSpec.post enc Try.prog Try.f4 false true false false) := by
  refine returnsInHanded_of_change (C := Try.checked) own started (by kernel_rfl) Try.func4
    (ChangeSpec.witness6 (enc := enc) (C := Try.checked) false ⟨#[], #[.agg #[.slice none 0 0, .slice none 0 0, .slice none 0 0, .slice none 0 0, .slice none 0 0, .slice none 0 0, .slice none 0 0, .slice none 0 0, .slice none 0 0, .int .i64 0, .bool false], .agg #[.int .u64 0, .int .u64 0], .agg #[.int .u64 0, .int .u64 0]], []⟩ 8 (by kernel_rfl) (by kernel_rfl) (by kernel_rfl) (by kernel_rfl)) ?_
  intro W base args ds gs before hval0 hW hcnd _
  have hval : ∀ (j : Nat) t v, Try.f4.params[j]? = some t → args[j]? = some v → Value.okWide Try.prog W .any base t v := hval0
  have hW' := hW
  obtain ⟨p, q, hA0, hV, rfl, hfz, hnd⟩ := hW
  have hA : DataW.TrodAll enc Try.prog W 0 (fun _ => true) true Try.f4.params.toList args.toList ds p := hA0
  rw [Try.params4] at hA hval
  obtain ⟨v0, vs0, d0, ds0, p0, q0, hargs, rfl, rfl, h0, r0⟩ := trodAll_cons hA
  obtain ⟨v1, vs1, d1, ds1, p1, q1, rfl, rfl, rfl, h1, r1⟩ := trodAll_cons r0
  obtain ⟨v2, vs2, d2, ds2, p2, q2, rfl, rfl, rfl, h2, r2⟩ := trodAll_cons r1
  obtain ⟨rfl, rfl, rfl⟩ := trodAll_nil r2
  obtain rfl : args = #[v0, v1, v2] := Array.ext' hargs
  obtain ⟨rfl, rfl⟩ := trodVars_none hV
  obtain ⟨n, h, rfl, k⟩ := NetO.open_net (hval 0 28 v0 rfl rfl) h0
  obtain ⟨a, b, rfl, hp0, hp1⟩ := NetPs.open_spoint (hval 1 31 v1 rfl rfl) h1
  obtain ⟨c, d, rfl, hq0, hq1⟩ := NetPs.open_spoint (hval 2 31 v2 rfl rfl) h2
  have walk := NetBk.law n h a b c d W k hp0 hp1 hq0 hq1
  refine walk.mono fun e W' ⟨he, bel⟩ => ?_
  subst he
  exact ⟨_, rfl, law_post 4 laidOut hpar hrt Try.underlying4 hW' rfl ⟨rfl, rfl, rfl⟩ bel⟩
theorem over : Rows.deltaBackRow.holds Try.pinned (OpenSpec.ofChange Rows.deltaBackSpec) :=
  OpenClaim.holds_of_wide 4 Try.f4 rfl rfl rfl rfl rfl rfl rfl ⟨rfl, rfl, rfl, rfl, rfl⟩ rfl rfl rfl rfl rfl (by kernel_rfl) Try.func4 (by kernel_rfl)
    (of_decide_eq_true (by kernel_rfl)) (by unfold Func.isWrapper; first | (rw [if_pos (by decide +kernel)]; kernel_rfl) | (rw [if_neg (by decide +kernel)]; exact ⟨rfl, rfl⟩))
    (fun os started H enc _ => lifted os started H enc)
/-- ████ THE STATEMENT ████ -/
theorem proved : Rows.DeltaBackSaid := over
#print axioms proved
end Go.Proofs.Ytgbbpliihglijaa.deltaBack
