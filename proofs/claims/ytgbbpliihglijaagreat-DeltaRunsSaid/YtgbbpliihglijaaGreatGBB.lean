/- Texts laid together: NetM; NetN; NetK; NetO; NetA; NetB; NetC. Their own heads stand before each. -/
import Derived.Test.YtgbbpliihglijaaGreatGAA
import Derived.WalkSmall
import Derived.WalkLawsBesides
import Derived.Test.YtgbbpliihglijaaGreatRows
import Derived.Deep.SlicePairs
import Derived.Deep.RegionHeld3
import Derived.Deep.DeepCutAuto
import Derived.BigQuiet
/- Networks as plain data: what a valid network is. No conditions. -/
namespace Go.Proofs.YtgbbpliihglijaaGreat
open Go
namespace NetM
open LexM TermM
/-- A gate: its kind, its index, what it reads. -/
abbrev Gt := Int × Int × List Int
/-- An input: its role, its move. -/
abbrev Ip := Int × Tm
/-- An output: its role, its value, its term, its gate. -/
abbrev Ou := Int × Int × Tm × Int
structure Nt where
  gates : List Gt
  roles : List Tm
  bases : List Tm
  inputs : List Ip
  initial : List Int
  next : List Int
  legal : List Int
  goals : List Ou
  sees : List Ou
  last : Int
  hid : Bool
/-! ### All below a number -/
def allN (n : Nat) (f : Nat → Bool) : Bool := (List.range n).all f
theorem alln_true {n : Nat} {f : Nat → Bool} : allN n f = true ↔ ∀ j, j < n → f j = true := by
  unfold allN
  rw [List.all_eq_true]
  exact ⟨fun h j hj => h j (List.mem_range.2 hj), fun h j hj => h j (List.mem_range.1 hj)⟩
theorem alln_false {n : Nat} {f : Nat → Bool} {j : Nat} (hj : j < n) (h : f j = false) : allN n f = false := by
  rw [Bool.eq_false_iff]
  intro e
  rw [alln_true.1 e j hj] at h
  cases h
theorem alln_congr {n : Nat} {f g : Nat → Bool} (h : ∀ j, j < n → f j = g j) : allN n f = allN n g := by
  rw [Bool.eq_iff_iff, alln_true, alln_true]
  exact ⟨fun k j hj => (h j hj) ▸ k j hj, fun k j hj => (h j hj).symm ▸ k j hj⟩
/-! ### Numbers -/
def inB (n most : Int) : Bool := decide (0 ≤ n) && decide (n < most)
/-- The element at an index, for indices that are there. -/
def at0 (l : List Int) (j : Nat) : Int := l.getD j 0
def numAt (l : List Int) (most : Int) (j : Nat) : Bool := inB (at0 l j) most && (decide (j = 0) || decide (at0 l (j - 1) < at0 l j))
def numsB (l : List Int) (most : Int) : Bool := allN l.length (numAt l most)
theorem at_get {l : List Int} {j : Nat} {x : Int} (h : l[j]? = some x) : at0 l j = x := by
  unfold at0
  rw [List.getD_eq_getElem?_getD, h]
  rfl
/-- Whether a list ascends. -/
def ascB (l : List Int) : Bool := allN l.length fun j => decide (j = 0) || decide (at0 l (j - 1) < at0 l j)
theorem asc_le {l : List Int} (h : ascB l = true) : ∀ (d i : Nat), i + d < l.length → at0 l i ≤ at0 l (i + d)
  | 0, i, _ => by simp
  | d + 1, i, hi => by
    have h1 := asc_le h d i (by omega)
    have h2 := alln_true.1 h (i + d + 1) (by omega)
    simp only [Nat.add_one_ne_zero, decide_false, Bool.false_or, decide_eq_true_eq, Nat.add_sub_cancel] at h2
    rw [show i + (d + 1) = i + d + 1 by omega]
    omega
/-- The first is not negative, the last below the count, and the list ascends: all are in range. -/
theorem nums_ends {l : List Int} {most : Int} : numsB l most = (decide (l.length = 0) || (decide (0 ≤ at0 l 0) && (decide (at0 l (l.length - 1) < most) && ascB l))) := by
  rw [Bool.eq_iff_iff]
  simp only [Bool.or_eq_true, Bool.and_eq_true, decide_eq_true_eq]
  unfold numsB
  rw [alln_true]
  constructor
  · intro h
    by_cases h0 : l.length = 0
    · exact Or.inl h0
    · refine Or.inr ⟨?_, ?_, alln_true.2 fun j hj => ?_⟩
      · have := h 0 (by omega)
        unfold numAt inB at this
        simp only [Bool.and_eq_true, decide_eq_true_eq] at this
        exact this.1.1
      · have := h (l.length - 1) (by omega)
        unfold numAt inB at this
        simp only [Bool.and_eq_true, decide_eq_true_eq] at this
        exact this.1.2
      · have := h j hj
        unfold numAt at this
        rw [Bool.and_eq_true] at this
        exact this.2
  · rintro (h | ⟨h1, h2, h3⟩) j hj
    · omega
    · have a1 := asc_le h3 j 0 (by omega)
      have a2 := asc_le h3 (l.length - 1 - j) j (by omega)
      rw [Nat.zero_add] at a1
      rw [show j + (l.length - 1 - j) = l.length - 1 by omega] at a2
      have a3 := alln_true.1 h3 j hj
      unfold numAt inB
      simp only [Bool.and_eq_true, decide_eq_true_eq]
      exact ⟨⟨by omega, by omega⟩, a3⟩
/-! ### Gates -/
def mostIx (n : Nt) (k : Int) : Int := if k = 2 then n.bases.length else if k = 3 then n.inputs.length else 1
def readsB (k : Int) (m : Nat) : Bool := if k = 6 then decide (m = 1) else if k = 4 ∨ k = 5 then decide (1 ≤ m) else decide (m = 0)
/-- The error of a gate with a number. -/
def gateE (n : Nt) (i : Nat) (g : Gt) : Int :=
  if inB g.1 7 = false then 20 else if inB g.2.1 (mostIx n g.1) = false then 12 else if readsB g.1 g.2.2.length = false then 13 else if numsB g.2.2 i = false then 25 else 0
/-- The first error of the gates from a number on. -/
def gatesE (n : Nt) : Nat → List Gt → Int
  | _, [] => 0
  | i, g :: l => if gateE n i g = 0 then gatesE n (i + 1) l else gateE n i g
theorem gates_ok {n : Nt} : ∀ {l : List Gt} {i : Nat}, (∀ j g, l[j]? = some g → gateE n (i + j) g = 0) → gatesE n i l = 0
  | [], _, _ => rfl
  | g :: l, i, h => by
    unfold gatesE
    rw [if_pos (by simpa using h 0 g rfl)]
    exact gates_ok fun j x hx => by rw [show i + 1 + j = i + (j + 1) by omega]; exact h (j + 1) x (by simpa using hx)
theorem gates_bad {n : Nt} : ∀ {l : List Gt} {i k : Nat} {g : Gt}, l[k]? = some g → (∀ j x, j < k → l[j]? = some x → gateE n (i + j) x = 0) → gateE n (i + k) g ≠ 0 → gatesE n i l = gateE n (i + k) g
  | [], _, _, _, h, _, _ => by simp at h
  | a :: l, i, 0, g, h, _, hc => by
    simp at h
    subst h
    unfold gatesE
    rw [if_neg (by simpa using hc)]
    simp
  | a :: l, i, k + 1, g, h, ht, hc => by
    unfold gatesE
    rw [if_pos (by simpa using ht 0 a (by omega) rfl), gates_bad (i := i + 1) (k := k) (g := g) (by simpa using h) (fun j x hj hx => by rw [show i + 1 + j = i + (j + 1) by omega]; exact ht (j + 1) x (by omega) (by simpa using hx)) (by rw [show i + 1 + k = i + (k + 1) by omega]; exact hc)]
    rw [show i + 1 + k = i + (k + 1) by omega]
end NetM
end Go.Proofs.YtgbbpliihglijaaGreat
/- Networks as plain data: what a valid network's lists are, and the error of one that is not valid. No conditions. -/
namespace Go.Proofs.YtgbbpliihglijaaGreat
open Go
namespace NetN
open LexM TermM NetM
def tmAt (l : List Tm) (i : Nat) : Tm := l.getD i (.mk ⟨#[]⟩ [])
theorem tm_get {l : List Tm} {i : Nat} {x : Tm} (h : l[i]? = some x) : tmAt l i = x := by
  unfold tmAt
  rw [List.getD_eq_getElem?_getD, h]
  rfl
def ipAt (l : List Ip) (i : Nat) : Ip := l.getD i (0, .mk ⟨#[]⟩ [])
theorem ip_get {l : List Ip} {i : Nat} {x : Ip} (h : l[i]? = some x) : ipAt l i = x := by
  unfold ipAt
  rw [List.getD_eq_getElem?_getD, h]
  rfl
def ouAt (l : List Ou) (i : Nat) : Ou := l.getD i (0, 0, .mk ⟨#[]⟩ [], 0)
theorem ou_get {l : List Ou} {i : Nat} {x : Ou} (h : l[i]? = some x) : ouAt l i = x := by
  unfold ouAt
  rw [List.getD_eq_getElem?_getD, h]
  rfl
/-- A role: a valid name without arguments that no role before it has. -/
def roleAt (l : List Tm) (i : Nat) : Bool := (tmAt l i).args.isEmpty && (nameL (tmAt l i).nm.data.toList && allN i fun k => decide ((tmAt l k).nm ≠ (tmAt l i).nm))
def rolesB (l : List Tm) : Bool := decide (1 ≤ l.length) && (decide (l.length ≤ 4) && allN l.length (roleAt l))
def baseAt (g : Tm → Bool) (l : List Tm) (i : Nat) : Bool := g (tmAt l i) && (decide (i = 0) || decide (cmpT (tmAt l (i - 1)) (tmAt l i) < 0))
def ipLt (a b : Ip) : Bool := decide (a.1 < b.1) || (decide (a.1 = b.1) && decide (cmpT a.2 b.2 < 0))
def inputAt (g : Tm → Bool) (r : Int) (l : List Ip) (i : Nat) : Bool := inB (ipAt l i).1 r && (g (ipAt l i).2 && (decide (i = 0) || ipLt (ipAt l (i - 1)) (ipAt l i)))
def goLt (a b : Ou) : Bool := decide (a.1 < b.1) || (decide (a.1 = b.1) && decide (a.2.1 < b.2.1))
def seLt (a b : Ou) : Bool := decide (a.1 < b.1) || (decide (a.1 = b.1) && decide (cmpT a.2.2.1 b.2.2.1 < 0))
def noTerm (t : Tm) : Bool := decide (t.nm = ⟨#[]⟩) && t.args.isEmpty
def goalAt (r : Int) (l : List Ou) (i : Nat) : Bool := inB (ouAt l i).1 r && (inB (ouAt l i).2.1 101 && (noTerm (ouAt l i).2.2.1 && (decide (i = 0) || goLt (ouAt l (i - 1)) (ouAt l i))))
def seeAt (g : Tm → Bool) (r : Int) (l : List Ou) (i : Nat) : Bool := inB (ouAt l i).1 r && (decide ((ouAt l i).2.1 = 0) && (g (ouAt l i).2.2.1 && (decide (i = 0) || seLt (ouAt l (i - 1)) (ouAt l i))))
/-- The gates of all outputs, in the order of these. -/
def outs (n : Nt) : List Int := n.next ++ n.legal ++ n.goals.map (·.2.2.2) ++ n.sees.map (·.2.2.2) ++ [n.last]
def listsB (g : Tm → Bool) (n : Nt) : Bool :=
  allN n.bases.length (baseAt g n.bases) && (allN n.inputs.length (inputAt g n.roles.length n.inputs) && (numsB n.initial n.bases.length && (decide (n.next.length = n.bases.length) && decide (n.legal.length = n.inputs.length))))
def outsB (g : Tm → Bool) (n : Nt) : Bool :=
  allN n.goals.length (goalAt n.roles.length n.goals) && (allN n.sees.length (seeAt g n.roles.length n.sees) && (outs n).all fun x => inB x n.gates.length)
/-- The error of a network; g says which terms are ground. -/
def chkN (g : Tm → Bool) (n : Nt) : Int :=
  if 16384 < n.gates.length then 11 else if gatesE n 0 n.gates ≠ 0 then gatesE n 0 n.gates else if (rolesB n.roles && (listsB g n && outsB g n)) = true then 0 else 13
end NetN
end Go.Proofs.YtgbbpliihglijaaGreat
/- Networks in memory: rows of numbers, gates, inputs and outputs. No conditions. -/
namespace Go.Proofs.YtgbbpliihglijaaGreat
open Go Go.RowKit
namespace NetK
open Kit LexM TermM TermI NetM NetN
def I64 (x : Int) : Prop := -9223372036854775808 ≤ x ∧ x < 9223372036854775808
/-- A kind of elements of so many cells. -/
structure Ke (α : Type) where
  ty : TypeId
  sz : Nat
  cells : α → List Value
  inn : (Nat → Prop) → World → α → Prop
  len : ∀ x, (cells x).length = sz
  keep : ∀ {ok : Nat → Prop} {w w' : World} {x : α}, inn ok w x → (∀ b o, ok b → w'.cell? ⟨b, o, none⟩ = w.cell? ⟨b, o, none⟩) → inn ok w' x
  wide : ∀ {ok ok' : Nat → Prop} {w : World} {x : α}, inn ok w x → (∀ b, ok b → ok' b) → inn ok' w x
/-- A slice value that holds the elements in blocks of a kind. -/
def RowE {α : Type} (K : Ke α) (ok : Nat → Prop) (w : World) (L : List α) (v : Value) : Prop :=
  ∃ p c, v = .slice p L.length c ∧ (p = none → c = 0) ∧ L.length ≤ c ∧ c ≤ maxLen ∧ (∀ x ∈ L, K.inn ok w x) ∧ (0 < L.length → ∃ g o, p = some ⟨g, o, none⟩ ∧ ok g ∧ ∀ i x, L[i]? = some x → ∀ j u, (K.cells x)[j]? = some u → w.cell? ⟨g, o + i * K.sz + j, none⟩ = some u)
section
variable {α : Type} {K : Ke α} {ok ok' : Nat → Prop} {w w' : World} {L : List α} {v : Value}
theorem RowE.nil (ok : Nat → Prop) (w : World) : RowE K ok w [] (.slice none 0 0) := ⟨none, 0, rfl, fun _ => rfl, Nat.le_refl _, Nat.zero_le _, fun x h => by simp at h, fun h => by simp at h⟩
theorem RowE.keep (h : RowE K ok w L v) (hf : ∀ b o, ok b → w'.cell? ⟨b, o, none⟩ = w.cell? ⟨b, o, none⟩) : RowE K ok w' L v := by
  obtain ⟨p, c, h1, h0, h2, h3, h4, h5⟩ := h
  refine ⟨p, c, h1, h0, h2, h3, fun x hx => K.keep (h4 x hx) hf, fun hl => ?_⟩
  obtain ⟨g, o, e1, e2, e3⟩ := h5 hl
  exact ⟨g, o, e1, e2, fun i x hx j u hu => (hf _ _ e2).trans (e3 i x hx j u hu)⟩
theorem RowE.wide (h : RowE K ok w L v) (hk : ∀ b, ok b → ok' b) : RowE K ok' w L v := by
  obtain ⟨p, c, h1, h0, h2, h3, h4, h5⟩ := h
  refine ⟨p, c, h1, h0, h2, h3, fun x hx => K.wide (h4 x hx) hk, fun hl => ?_⟩
  obtain ⟨g, o, e1, e2, e3⟩ := h5 hl
  exact ⟨g, o, e1, hk _ e2, e3⟩
theorem RowE.form (h : RowE K ok w L v) : ∃ p c, v = .slice p L.length c := by
  obtain ⟨p, c, e, _⟩ := h
  exact ⟨p, c, e⟩
/-- An element of a row: where it lies. -/
theorem RowE.at {p : Option Addr} {n c : Nat} (h : RowE K ok w L (.slice p n c)) {k : Nat} {x : α} (hx : L[k]? = some x) :
    ∃ g o, p = some ⟨g, o, none⟩ ∧ ok g ∧ K.inn ok w x ∧ ∀ j u, (K.cells x)[j]? = some u → w.cell? ⟨g, o + k * K.sz + j, none⟩ = some u := by
  have hk := (List.getElem?_eq_some_iff.1 hx).1
  obtain ⟨p', c', e, _, _, _, h4, h5⟩ := h
  injection e with e1 _ _
  subst e1
  obtain ⟨g, o, e1, e2, e3⟩ := h5 (by omega)
  exact ⟨g, o, e1, e2, h4 x (List.mem_of_getElem? hx), e3 k x hx⟩
theorem RowE.cap {p : Option Addr} {n c : Nat} (h : RowE K ok w L (.slice p n c)) : n = L.length ∧ n ≤ c ∧ c ≤ maxLen := by
  obtain ⟨p', c', e, _, h1, h2, _⟩ := h
  injection e with _ e2 e3
  subst e2 e3
  exact ⟨rfl, h1, h2⟩
end
/-- Numbers. -/
def KN : Ke Int where
  ty := 3
  sz := 1
  cells x := [.int .i64 x]
  inn _ _ x := I64 x
  len _ := rfl
  keep h _ := h
  wide h _ := h
/-- Gates. -/
def KG : Ke (Gt × Value) where
  ty := 55
  sz := 3
  cells x := [.int .i64 x.1.1, .int .i64 x.1.2.1, x.2]
  inn ok w x := RowE KN ok w x.1.2.2 x.2 ∧ I64 x.1.1 ∧ I64 x.1.2.1
  len _ := rfl
  keep h hf := ⟨h.1.keep hf, h.2⟩
  wide h hk := ⟨h.1.wide hk, h.2⟩
/-- Inputs. -/
def KP : Ke (Ip × Value) where
  ty := 60
  sz := 3
  cells x := [.int .i64 x.1.1, .string x.1.2.nm, x.2]
  inn ok w x := SlIn ok w x.1.2.args x.2 ∧ x.1.2.nm.size ≤ maxLen ∧ I64 x.1.1
  len _ := rfl
  keep h hf := ⟨h.1.frame hf, h.2⟩
  wide h hk := ⟨h.1.weaken hk, h.2⟩
/-- Outputs. -/
def KO : Ke (Ou × Value) where
  ty := 62
  sz := 5
  cells x := [.int .i64 x.1.1, .int .i64 x.1.2.1, .string x.1.2.2.1.nm, x.2, .int .i64 x.1.2.2.2]
  inn ok w x := SlIn ok w x.1.2.2.1.args x.2 ∧ x.1.2.2.1.nm.size ≤ maxLen ∧ I64 x.1.1 ∧ I64 x.1.2.1 ∧ I64 x.1.2.2.2
  len _ := rfl
  keep h hf := ⟨h.1.frame hf, h.2⟩
  wide h hk := ⟨h.1.weaken hk, h.2⟩
/-- A list whose elements lie in memory with a value each. -/
def LE {α : Type} (K : Ke (α × Value)) (ok : Nat → Prop) (w : World) (l : List α) (v : Value) : Prop := ∃ L : List (α × Value), L.map (·.1) = l ∧ RowE K ok w L v
section
variable {α : Type} {K : Ke (α × Value)} {ok ok' : Nat → Prop} {w w' : World} {l : List α} {v : Value}
theorem LE.keep (h : LE K ok w l v) (hf : ∀ b o, ok b → w'.cell? ⟨b, o, none⟩ = w.cell? ⟨b, o, none⟩) : LE K ok w' l v := by
  obtain ⟨L, e, h⟩ := h; exact ⟨L, e, h.keep hf⟩
theorem LE.wide (h : LE K ok w l v) (hk : ∀ b, ok b → ok' b) : LE K ok' w l v := by
  obtain ⟨L, e, h⟩ := h; exact ⟨L, e, h.wide hk⟩
theorem LE.form (h : LE K ok w l v) : ∃ p c, v = .slice p l.length c := by
  obtain ⟨L, rfl, p, c, e, _⟩ := h
  exact ⟨p, c, by rw [e]; simp⟩
theorem LE.nil (ok : Nat → Prop) (w : World) : LE K ok w [] (.slice none 0 0) := ⟨[], rfl, RowE.nil _ _⟩
theorem LE.at {p : Option Addr} {n c : Nat} (h : LE K ok w l (.slice p n c)) {k : Nat} {x : α} (hx : l[k]? = some x) :
    ∃ v g o, p = some ⟨g, o, none⟩ ∧ ok g ∧ K.inn ok w (x, v) ∧ ∀ j u, (K.cells (x, v))[j]? = some u → w.cell? ⟨g, o + k * K.sz + j, none⟩ = some u := by
  obtain ⟨L, rfl, h⟩ := h
  rw [List.getElem?_map] at hx
  obtain ⟨⟨x', v⟩, h1, rfl⟩ := Option.map_eq_some_iff.1 hx
  obtain ⟨g, o, e1, e2, e3, e4⟩ := h.at h1
  exact ⟨v, g, o, e1, e2, e3, e4⟩
theorem LE.cap {p : Option Addr} {n c : Nat} (h : LE K ok w l (.slice p n c)) : n = l.length ∧ n ≤ c ∧ c ≤ maxLen := by
  obtain ⟨L, rfl, h⟩ := h
  obtain ⟨h1, h2, h3⟩ := h.cap
  exact ⟨by rw [h1]; simp, h2, h3⟩
end
/-- Where a network's lists lie. -/
structure Nh where
  gp : Option Addr
  gc : Nat
  rp : Option Addr
  rc : Nat
  bp : Option Addr
  bc : Nat
  ip : Option Addr
  ic : Nat
  ap : Option Addr
  ac : Nat
  np : Option Addr
  nc : Nat
  lp : Option Addr
  lc : Nat
  op : Option Addr
  oc : Nat
  sp : Option Addr
  sc : Nat
/-- A network's cells. -/
abbrev netC (n : Nt) (h : Nh) : Array Value := #[.slice h.gp n.gates.length h.gc, .slice h.rp n.roles.length h.rc, .slice h.bp n.bases.length h.bc, .slice h.ip n.inputs.length h.ic, .slice h.ap n.initial.length h.ac, .slice h.np n.next.length h.nc, .slice h.lp n.legal.length h.lc, .slice h.op n.goals.length h.oc, .slice h.sp n.sees.length h.sc, .int .i64 n.last, .bool n.hid]
/-- A network in memory. -/
structure NetIn (ok : Nat → Prop) (w : World) (n : Nt) (h : Nh) : Prop where
  gates : LE KG ok w n.gates (.slice h.gp n.gates.length h.gc)
  roles : SlIn ok w n.roles (.slice h.rp n.roles.length h.rc)
  bases : SlIn ok w n.bases (.slice h.bp n.bases.length h.bc)
  inputs : LE KP ok w n.inputs (.slice h.ip n.inputs.length h.ic)
  initial : RowE KN ok w n.initial (.slice h.ap n.initial.length h.ac)
  next : RowE KN ok w n.next (.slice h.np n.next.length h.nc)
  legal : RowE KN ok w n.legal (.slice h.lp n.legal.length h.lc)
  goals : LE KO ok w n.goals (.slice h.op n.goals.length h.oc)
  sees : LE KO ok w n.sees (.slice h.sp n.sees.length h.sc)
  last : I64 n.last
theorem NetIn.keep {ok : Nat → Prop} {w w' : World} {n : Nt} {h : Nh} (k : NetIn ok w n h) (hf : ∀ b o, ok b → w'.cell? ⟨b, o, none⟩ = w.cell? ⟨b, o, none⟩) : NetIn ok w' n h :=
  ⟨k.gates.keep hf, k.roles.frame hf, k.bases.frame hf, k.inputs.keep hf, k.initial.keep hf, k.next.keep hf, k.legal.keep hf, k.goals.keep hf, k.sees.keep hf, k.last⟩
theorem NetIn.wide {ok ok' : Nat → Prop} {w : World} {n : Nt} {h : Nh} (k : NetIn ok w n h) (hk : ∀ b, ok b → ok' b) : NetIn ok' w n h :=
  ⟨k.gates.wide hk, k.roles.weaken hk, k.bases.weaken hk, k.inputs.wide hk, k.initial.wide hk, k.next.wide hk, k.legal.wide hk, k.goals.wide hk, k.sees.wide hk, k.last⟩
theorem NetIn.deep {B B' : Nat} {w w' : World} {n : Nt} {h : Nh} (k : NetIn (· < B) w n h) (hb : Below B' w w') (hB : B ≤ B') : NetIn (· < B) w' n h := k.keep fun _ _ hlt => hb.cell (p := ⟨_, _, none⟩) (Nat.lt_of_lt_of_le hlt hB)
/-- A block that holds a network: what a walk asks of it. -/
theorem hasN {w : World} {g : Nat} {n : Nt} {h : Nh} (k : Has w g (netC n h)) :
    w.cell? ⟨g, 0, none⟩ = some (.slice h.gp n.gates.length h.gc) ∧ w.cell? ⟨g, 1, none⟩ = some (.slice h.rp n.roles.length h.rc) ∧ w.cell? ⟨g, 2, none⟩ = some (.slice h.bp n.bases.length h.bc) ∧ w.cell? ⟨g, 3, none⟩ = some (.slice h.ip n.inputs.length h.ic) ∧ w.cell? ⟨g, 4, none⟩ = some (.slice h.ap n.initial.length h.ac) ∧ w.cell? ⟨g, 5, none⟩ = some (.slice h.np n.next.length h.nc) ∧
    w.cell? ⟨g, 6, none⟩ = some (.slice h.lp n.legal.length h.lc) ∧ w.cell? ⟨g, 7, none⟩ = some (.slice h.op n.goals.length h.oc) ∧ w.cell? ⟨g, 8, none⟩ = some (.slice h.sp n.sees.length h.sc) ∧ w.cell? ⟨g, 9, none⟩ = some (.int .i64 n.last) ∧ w.cell? ⟨g, 10, none⟩ = some (.bool n.hid) :=
  ⟨k.cell 0, k.cell 1, k.cell 2, k.cell 3, k.cell 4, k.cell 5, k.cell 6, k.cell 7, k.cell 8, k.cell 9, k.cell 10⟩
end NetK
end Go.Proofs.YtgbbpliihglijaaGreat
/- Networks that come in are opened. No conditions. -/
namespace Go.Proofs.YtgbbpliihglijaaGreat
open Go Go.RowKit Go.ChangeShapes Go.Deep
namespace NetO
open LexM TermM TermI Kit NetM NetN NetK
section
variable {H : Type} {enc : TypeId × Value → H} {W : World} {base : Nat} {sp : Nat → Bool} {held : Bool}
/-- A slice value that reads as a slice of elements of a kind. -/
theorem row_in {α : Type} (K : Ke α) {T : TypeId} (hT : Tryz.prog.underlying T = some (.slice K.ty)) (hc : Tryz.prog.cellsOf K.ty = K.sz) (h0 : 0 < K.sz)
    (each : ∀ (n : Nat) (cs : List Value) (x : DataW H × List MemPlace), DataW.trod enc Tryz.prog W base sp held n K.ty cs = some x → ∃ y : α, cs = K.cells y ∧ K.inn (· < W.heap.size) W y)
    {n : Nat} {cs : List Value} {x : DataW H × List MemPlace} (h : DataW.trod enc Tryz.prog W base sp held n T cs = some x) : ∃ (l : List α) (v : Value), cs = [v] ∧ RowE K (· < W.heap.size) W l v := by
  rcases DataW.trod_slice hT h with ⟨rfl, rfl⟩ | ⟨a, len, cap, elems, rest, m, hn, rfl, rfl, _, hle, hm, hlen, hel, _⟩
  · exact ⟨[], _, rfl, RowE.nil _ _⟩
  · have eachi : ∀ i, i < len → ∃ tv : α, (∀ j u, (K.cells tv)[j]? = some u → W.cell? (a.add (i * K.sz + j)) = some u) ∧ K.inn (· < W.heap.size) W tv := by
      intro i hi
      have he := hel i hi
      rw [List.getElem?_eq_getElem (by omega)] at he
      obtain ⟨cs', h1, h2⟩ := Option.bind_eq_some_iff.1 he
      rw [hc] at h1
      obtain ⟨_, hl2, hcell⟩ := World.cells?_some h1
      obtain ⟨y, rfl, hin⟩ := each _ _ _ h2
      refine ⟨y, fun j u hu => ?_, hin⟩
      have hj := (List.getElem?_eq_some_iff.1 hu).1
      rw [K.len] at hj
      have e0 := hcell j (by omega)
      rw [add_add] at e0
      rw [e0]
      exact hu
    obtain ⟨tvs, htl, hall⟩ := gather eachi
    obtain ⟨b, off, spot⟩ := a
    have hsp : tvs ≠ [] → spot = none ∧ b < W.heap.size := by
      intro hne
      obtain ⟨tv, hg⟩ : ∃ tv, tvs[0]? = some tv := by cases tvs with
        | nil => exact absurd rfl hne
        | cons a r => exact ⟨a, rfl⟩
      obtain ⟨u, hu⟩ : ∃ u, (K.cells tv)[0]? = some u := ⟨(K.cells tv)[0]'(by rw [K.len]; exact h0), List.getElem?_eq_getElem _⟩
      have h0 := (hall 0 tv hg).1 0 u hu
      have h2 : spot = none := by simpa [Addr.add] using World.cell?_spot h0
      subst h2
      exact ⟨rfl, by simpa [Addr.add] using block_lt_of_cell h0⟩
    refine ⟨tvs, .slice (some ⟨b, off, spot⟩) len cap, rfl, some ⟨b, off, spot⟩, cap, by rw [htl], (fun h => by simp at h), by omega, hm, fun x hx => ?_, fun hl => ?_⟩
    · obtain ⟨i, hi⟩ := List.mem_iff_getElem?.1 hx
      exact (hall i x hi).2
    · obtain ⟨rfl, hb⟩ := hsp (by intro e; subst e; simp at hl)
      refine ⟨b, off, rfl, hb, fun i x hx j u hu => ?_⟩
      have := (hall i x hx).1 j u hu
      rw [addr_add, ← Nat.add_assoc] at this
      exact this
theorem cellsI : Tryz.prog.cellsOf 3 = 1 := by kernel_rfl
theorem cellsIs : Tryz.prog.cellsOf 25 = 1 := by kernel_rfl
theorem cellsB : Tryz.prog.cellsOf 4 = 1 := by kernel_rfl
theorem cellsGate : Tryz.prog.cellsOf 55 = 3 := by kernel_rfl
theorem cellsIn : Tryz.prog.cellsOf 60 = 3 := by kernel_rfl
theorem cellsOut : Tryz.prog.cellsOf 62 = 5 := by kernel_rfl
theorem cellsNet : Tryz.prog.cellsOf 28 = 11 := by kernel_rfl
theorem cellsGs : Tryz.prog.cellsOf 22 = 1 := by kernel_rfl
theorem cellsTs : Tryz.prog.cellsOf 23 = 1 := by kernel_rfl
theorem cellsPs : Tryz.prog.cellsOf 24 = 1 := by kernel_rfl
theorem cellsOs : Tryz.prog.cellsOf 26 = 1 := by kernel_rfl
theorem num_in {n : Nat} {cs : List Value} {x : DataW H × List MemPlace} (h : DataW.trod enc Tryz.prog W base sp held n 3 cs = some x) : ∃ y : Int, cs = KN.cells y ∧ KN.inn (· < W.heap.size) W y := by
  obtain ⟨a, e0, _, wa⟩ := DataW.trod_int Tryz.underlying3 h
  obtain ⟨h1, h2⟩ := bounds_i64 wa
  exact ⟨a, e0, h1, by omega⟩
theorem nums_in {n : Nat} {cs : List Value} {x : DataW H × List MemPlace} (h : DataW.trod enc Tryz.prog W base sp held n 25 cs = some x) : ∃ (l : List Int) (v : Value), cs = [v] ∧ RowE KN (· < W.heap.size) W l v :=
  row_in KN (T := 25) Tryz.underlying25 cellsI (by decide) (fun _ _ _ h => num_in h) h
theorem underGate : ∃ f0 f1 f2 : Field, Tryz.prog.underlying 55 = some (.struct #[f0, f1, f2]) ∧ f0.offset = 0 ∧ f1.offset = 1 ∧ f2.offset = 2 ∧ f0.type = 3 ∧ f1.type = 3 ∧ f2.type = 25 := ⟨_, _, _, Tryz.underlying55, rfl, rfl, rfl, rfl, rfl, rfl⟩
set_option maxRecDepth 100000 in
theorem gate_in {n : Nat} {cs : List Value} {x : DataW H × List MemPlace} (h : DataW.trod enc Tryz.prog W base sp held n 55 cs = some x) : ∃ y : Gt × Value, cs = KG.cells y ∧ KG.inn (· < W.heap.size) W y := by
  obtain ⟨f0, f1, f2, hu, o0, o1, o2, y0, y1, y2⟩ := underGate
  obtain ⟨xs, k, hk, hxy, hcl, hxl, hf⟩ := DataW.trod_struct hu h
  rw [cellsGate] at hcl
  match cs, hcl with
  | [v0, v1, v2], _ =>
    match xs, hxl with
    | [x0, x1, x2], _ =>
      have g0 := hf 0 f0 rfl
      have g1 := hf 1 f1 rfl
      have g2 := hf 2 f2 rfl
      simp [o0, o1, o2, y0, y1, y2, cellsI, cellsIs] at g0 g1 g2
      obtain ⟨a, q0, i0⟩ := num_in g0
      obtain ⟨b, q1, i1⟩ := num_in g1
      obtain ⟨l, v, q2, i2⟩ := nums_in g2
      injection q0 with q0 _
      injection q1 with q1 _
      injection q2 with q2 _
      subst q0 q1 q2
      exact ⟨((a, b, l), _), rfl, i2, i0, i1⟩
theorem gates_in {n : Nat} {cs : List Value} {x : DataW H × List MemPlace} (h : DataW.trod enc Tryz.prog W base sp held n 22 cs = some x) : ∃ (l : List Gt) (v : Value), cs = [v] ∧ LE KG (· < W.heap.size) W l v := by
  obtain ⟨L, v, e, hr⟩ := row_in KG (T := 22) Tryz.underlying22 cellsGate (by decide) (fun _ _ _ h => gate_in h) h
  exact ⟨_, v, e, L, rfl, hr⟩
theorem underIn : ∃ f0 f1 : Field, Tryz.prog.underlying 60 = some (.struct #[f0, f1]) ∧ f0.offset = 0 ∧ f1.offset = 1 ∧ f0.type = 3 ∧ f1.type = 58 := ⟨_, _, Tryz.underlying60, rfl, rfl, rfl, rfl⟩
set_option maxRecDepth 100000 in
theorem input_in {n : Nat} {cs : List Value} {x : DataW H × List MemPlace} (h : DataW.trod enc Tryz.prog W base sp held n 60 cs = some x) : ∃ y : Ip × Value, cs = KP.cells y ∧ KP.inn (· < W.heap.size) W y := by
  obtain ⟨f0, f1, hu, o0, o1, y0, y1⟩ := underIn
  obtain ⟨xs, k, hk, hxy, hcl, hxl, hf⟩ := DataW.trod_struct hu h
  rw [cellsIn] at hcl
  match cs, hcl with
  | [v0, v1, v2], _ =>
    match xs, hxl with
    | [x0, x1], _ =>
      have g0 := hf 0 f0 rfl
      have g1 := hf 1 f1 rfl
      simp [o0, o1, y0, y1, cellsI, cellsT] at g0 g1
      obtain ⟨a, q0, i0⟩ := num_in g0
      obtain ⟨s, v, k2, y, e, _, hs, hv, _⟩ := struct_in g1
      obtain ⟨l, v', e', hin⟩ := slice_in _ _ _ hv
      injection q0 with q0 _
      injection e with e1 e2
      injection e2 with e2 _
      injection e' with e' _
      subst q0 e1 e2 e'
      exact ⟨((a, .mk s l), _), rfl, hin, hs, i0⟩
theorem inputs_in {n : Nat} {cs : List Value} {x : DataW H × List MemPlace} (h : DataW.trod enc Tryz.prog W base sp held n 24 cs = some x) : ∃ (l : List Ip) (v : Value), cs = [v] ∧ LE KP (· < W.heap.size) W l v := by
  obtain ⟨L, v, e, hr⟩ := row_in KP (T := 24) Tryz.underlying24 cellsIn (by decide) (fun _ _ _ h => input_in h) h
  exact ⟨_, v, e, L, rfl, hr⟩
theorem underOut : ∃ f0 f1 f2 f3 : Field, Tryz.prog.underlying 62 = some (.struct #[f0, f1, f2, f3]) ∧ f0.offset = 0 ∧ f1.offset = 1 ∧ f2.offset = 2 ∧ f3.offset = 4 ∧ f0.type = 3 ∧ f1.type = 3 ∧ f2.type = 58 ∧ f3.type = 3 := ⟨_, _, _, _, Tryz.underlying62, rfl, rfl, rfl, rfl, rfl, rfl, rfl, rfl⟩
set_option maxRecDepth 100000 in
theorem output_in {n : Nat} {cs : List Value} {x : DataW H × List MemPlace} (h : DataW.trod enc Tryz.prog W base sp held n 62 cs = some x) : ∃ y : Ou × Value, cs = KO.cells y ∧ KO.inn (· < W.heap.size) W y := by
  obtain ⟨f0, f1, f2, f3, hu, o0, o1, o2, o3, y0, y1, y2, y3⟩ := underOut
  obtain ⟨xs, k, hk, hxy, hcl, hxl, hf⟩ := DataW.trod_struct hu h
  rw [cellsOut] at hcl
  match cs, hcl with
  | [v0, v1, v2, v3, v4], _ =>
    match xs, hxl with
    | [x0, x1, x2, x3], _ =>
      have g0 := hf 0 f0 rfl
      have g1 := hf 1 f1 rfl
      have g2 := hf 2 f2 rfl
      have g3 := hf 3 f3 rfl
      simp [o0, o1, o2, o3, y0, y1, y2, y3, cellsI, cellsT] at g0 g1 g2 g3
      obtain ⟨a, q0, i0⟩ := num_in g0
      obtain ⟨b, q1, i1⟩ := num_in g1
      obtain ⟨s, v, k2, y, e, _, hs, hv, _⟩ := struct_in g2
      obtain ⟨l, v', e', hin⟩ := slice_in _ _ _ hv
      obtain ⟨c, q3, i3⟩ := num_in g3
      injection q0 with q0 _
      injection q1 with q1 _
      injection q3 with q3 _
      injection e with e1 e2
      injection e2 with e2 _
      injection e' with e' _
      subst q0 q1 q3 e1 e2 e'
      exact ⟨((a, b, .mk s l, c), _), rfl, hin, hs, i0, i1, i3⟩
theorem outputs_in {n : Nat} {cs : List Value} {x : DataW H × List MemPlace} (h : DataW.trod enc Tryz.prog W base sp held n 26 cs = some x) : ∃ (l : List Ou) (v : Value), cs = [v] ∧ LE KO (· < W.heap.size) W l v := by
  obtain ⟨L, v, e, hr⟩ := row_in KO (T := 26) Tryz.underlying26 cellsOut (by decide) (fun _ _ _ h => output_in h) h
  exact ⟨_, v, e, L, rfl, hr⟩
theorem underNet : ∃ f0 f1 f2 f3 f4 f5 f6 f7 f8 f9 f10 : Field, Tryz.prog.underlying 28 = some (.struct #[f0, f1, f2, f3, f4, f5, f6, f7, f8, f9, f10]) ∧ (f0.offset = 0 ∧ f1.offset = 1 ∧ f2.offset = 2 ∧ f3.offset = 3 ∧ f4.offset = 4 ∧ f5.offset = 5 ∧ f6.offset = 6 ∧ f7.offset = 7 ∧ f8.offset = 8 ∧ f9.offset = 9 ∧ f10.offset = 10) ∧
    f0.type = 22 ∧ f1.type = 23 ∧ f2.type = 23 ∧ f3.type = 24 ∧ f4.type = 25 ∧ f5.type = 25 ∧ f6.type = 25 ∧ f7.type = 26 ∧ f8.type = 26 ∧ f9.type = 3 ∧ f10.type = 4 :=
  ⟨_, _, _, _, _, _, _, _, _, _, _, Tryz.underlying28, ⟨rfl, rfl, rfl, rfl, rfl, rfl, rfl, rfl, rfl, rfl, rfl⟩, rfl, rfl, rfl, rfl, rfl, rfl, rfl, rfl, rfl, rfl, rfl⟩
set_option maxRecDepth 100000 in
theorem net_in {n : Nat} {cs : List Value} {x : DataW H × List MemPlace} (h : DataW.trod enc Tryz.prog W base sp held n 28 cs = some x) : ∃ (m : Nt) (h : Nh), cs = (netC m h).toList ∧ NetIn (· < W.heap.size) W m h := by
  obtain ⟨f0, f1, f2, f3, f4, f5, f6, f7, f8, f9, f10, hu, ⟨o0, o1, o2, o3, o4, o5, o6, o7, o8, o9, o10⟩, y0, y1, y2, y3, y4, y5, y6, y7, y8, y9, y10⟩ := underNet
  obtain ⟨xs, k, hk, hxy, hcl, hxl, hf⟩ := DataW.trod_struct hu h
  rw [cellsNet] at hcl
  match cs, hcl with
  | [v0, v1, v2, v3, v4, v5, v6, v7, v8, v9, v10], _ =>
    match xs, hxl with
    | [x0, x1, x2, x3, x4, x5, x6, x7, x8, x9, x10], _ =>
      have g0 := hf 0 f0 rfl
      have g1 := hf 1 f1 rfl
      have g2 := hf 2 f2 rfl
      have g3 := hf 3 f3 rfl
      have g4 := hf 4 f4 rfl
      have g5 := hf 5 f5 rfl
      have g6 := hf 6 f6 rfl
      have g7 := hf 7 f7 rfl
      have g8 := hf 8 f8 rfl
      have g9 := hf 9 f9 rfl
      have g10 := hf 10 f10 rfl
      simp [o0, y0, cellsGs] at g0
      simp [o1, y1, cellsTs] at g1
      simp [o2, y2, cellsTs] at g2
      simp [o3, y3, cellsPs] at g3
      simp [o4, y4, cellsIs] at g4
      simp [o5, y5, cellsIs] at g5
      simp [o6, y6, cellsIs] at g6
      simp [o7, y7, cellsOs] at g7
      simp [o8, y8, cellsOs] at g8
      simp [o9, y9, cellsI] at g9
      simp [o10, y10, cellsB] at g10
      obtain ⟨l0, u0, q0, i0⟩ := gates_in g0
      obtain ⟨l1, u1, q1, i1⟩ := slice_in _ _ _ g1
      obtain ⟨l2, u2, q2, i2⟩ := slice_in _ _ _ g2
      obtain ⟨l3, u3, q3, i3⟩ := inputs_in g3
      obtain ⟨l4, u4, q4, i4⟩ := nums_in g4
      obtain ⟨l5, u5, q5, i5⟩ := nums_in g5
      obtain ⟨l6, u6, q6, i6⟩ := nums_in g6
      obtain ⟨l7, u7, q7, i7⟩ := outputs_in g7
      obtain ⟨l8, u8, q8, i8⟩ := outputs_in g8
      obtain ⟨t, q9, i9⟩ := num_in g9
      obtain ⟨b, q10, _⟩ := DataW.trod_bool Tryz.underlying4 g10
      injection q0 with q0 _
      injection q1 with q1 _
      injection q2 with q2 _
      injection q3 with q3 _
      injection q4 with q4 _
      injection q5 with q5 _
      injection q6 with q6 _
      injection q7 with q7 _
      injection q8 with q8 _
      injection q9 with q9 _
      injection q10 with q10 _
      subst q0 q1 q2 q3 q4 q5 q6 q7 q8 q9 q10
      obtain ⟨p0, c0, rfl⟩ := i0.form
      obtain ⟨p1, c1, rfl⟩ := i1.form
      obtain ⟨p2, c2, rfl⟩ := i2.form
      obtain ⟨p3, c3, rfl⟩ := i3.form
      obtain ⟨p4, c4, rfl⟩ := i4.form
      obtain ⟨p5, c5, rfl⟩ := i5.form
      obtain ⟨p6, c6, rfl⟩ := i6.form
      obtain ⟨p7, c7, rfl⟩ := i7.form
      obtain ⟨p8, c8, rfl⟩ := i8.form
      exact ⟨⟨l0, l1, l2, l3, l4, l5, l6, l7, l8, t, b⟩, ⟨p0, c0, p1, c1, p2, c2, p3, c3, p4, c4, p5, c5, p6, c6, p7, c7, p8, c8⟩, rfl, ⟨i0, i1, i2, i3, i4, i5, i6, i7, i8, i9⟩⟩
end
set_option maxRecDepth 100000 in
/-- A network that comes in by value. -/
theorem open_net {H : Type} {enc : TypeId × Value → H} {W : World} {b0 : Nat} {base : Nat} {sp : Nat → Bool} {held : Bool} {v : Value} {d : DataW H} {p : List MemPlace}
    (hv : Value.okWide Tryz.prog W .any b0 28 v) (h : DataW.Trod enc Tryz.prog W base sp held 28 v d p) : ∃ (m : Nt) (h : Nh), v = .agg (netC m h) ∧ NetIn (· < W.heap.size) W m h := by
  obtain ⟨f0, f1, f2, f3, f4, f5, f6, f7, f8, f9, f10, hu, _⟩ := underNet
  obtain ⟨cs, rfl, hsz⟩ := WideShapes.okWide_struct hu hv
  obtain ⟨fuel, hf⟩ := h
  obtain ⟨m, h, e, hin⟩ := net_in hf
  refine ⟨m, h, ?_, hin⟩
  have e : cs.toList = (netC m h).toList := by simpa [Value.cells] using e
  rw [Array.ext' e]
end NetO
end Go.Proofs.YtgbbpliihglijaaGreat
/- Small functions of the package's Check: ranges, indices, ascending numbers. No conditions. -/
namespace Go.Proofs.YtgbbpliihglijaaGreat
open Go Go.RowKit
namespace NetA
open Kit LexM TermM TermI NetM NetN NetK
theorem b_more {W w : World} (h : Below W.heap.size W w) (o : Obj) : Below W.heap.size W (w.alloc o) := h.alloc h.size o
def cmpI (a b : Int) : Int := if a < b then -1 else if b < a then 1 else 0
theorem cmpi_neg {a b : Int} : cmpI a b < 0 ↔ a < b := by unfold cmpI; split <;> (try split) <;> omega
theorem isnan_any (x : Int) (w : World) : Calls Tryz.prog 89 #[.int .i64 x] w fun e w' => e = .returned (.bool false) ∧ w = w' := by
  go_enter Tryz.func89, Tryz.ntmps89
  have i1 : (x != x) = false := by simp
  go_wp2_with fail
  go_ret
  exact ⟨rfl, rfl⟩
theorem cmpi_any (a b : Int) (w : World) : Calls Tryz.prog 77 #[.int .i64 a, .int .i64 b] w fun e w' => e = .returned (.int .i64 (cmpI a b)) ∧ w = w' := by
  have N1 := Lib.hid (fun w' => isnan_any a w')
  have N2 := Lib.hid (fun w' => isnan_any b w')
  unfold cmpI
  by_cases h1 : a < b
  · rw [if_pos h1]
    go_enter Tryz.func77, Tryz.ntmps77
    go_wp2_with fail
    refine (N1.out _).mono ?_
    rintro e w' ⟨rfl, rfl⟩
    go_wp2_with fail
    refine (N2.out _).mono ?_
    rintro e w' ⟨rfl, rfl⟩
    go_wp2_with fail
    go_ret
    exact ⟨rfl, rfl⟩
  · rw [if_neg h1]
    by_cases h2 : b < a
    · rw [if_pos h2]
      go_enter Tryz.func77, Tryz.ntmps77
      go_wp2_with fail
      refine (N1.out _).mono ?_
      rintro e w' ⟨rfl, rfl⟩
      go_wp2_with fail
      refine (N2.out _).mono ?_
      rintro e w' ⟨rfl, rfl⟩
      go_wp2_with fail
      go_ret
      exact ⟨rfl, rfl⟩
    · rw [if_neg h2]
      go_enter Tryz.func77, Tryz.ntmps77
      go_wp2_with fail
      refine (N1.out _).mono ?_
      rintro e w' ⟨rfl, rfl⟩
      go_wp2_with fail
      refine (N2.out _).mono ?_
      rintro e w' ⟨rfl, rfl⟩
      go_wp2_with fail
      go_ret
      exact ⟨rfl, rfl⟩
theorem below_any (a b : Int) (w : World) : Calls Tryz.prog 53 #[.int .i64 a, .int .i64 b] w fun e w' => e = .returned (.bool (inB a b)) ∧ w = w' := by
  unfold inB
  go_enter Tryz.func53, Tryz.ntmps53
  by_cases h : 0 ≤ a
  · rw [decide_eq_true h, Bool.true_and]
    go_wp2_with fail
    go_ret
    exact ⟨rfl, rfl⟩
  · have h2 : ¬ 0 ≤ a := h
    rw [decide_eq_false h, Bool.false_and]
    go_wp2_with fail
    go_ret
    exact ⟨rfl, rfl⟩
theorem indices_any (n : Nt) (h : Nh) (k : Int) (w : World) : Calls Tryz.prog 54 #[.agg #[.slice h.gp n.gates.length h.gc, .slice h.rp n.roles.length h.rc, .slice h.bp n.bases.length h.bc, .slice h.ip n.inputs.length h.ic, .slice h.ap n.initial.length h.ac, .slice h.np n.next.length h.nc, .slice h.lp n.legal.length h.lc, .slice h.op n.goals.length h.oc, .slice h.sp n.sees.length h.sc, .int .i64 n.last, .bool n.hid], .int .i64 k] w fun e w' => e = .returned (.int .i64 (mostIx n k)) ∧ Below w.heap.size w w' := by
  obtain ⟨W1, hW1⟩ : ∃ z, z = w.alloc (.cells #[.slice h.gp n.gates.length h.gc, .slice h.rp n.roles.length h.rc, .slice h.bp n.bases.length h.bc, .slice h.ip n.inputs.length h.ic, .slice h.ap n.initial.length h.ac, .slice h.np n.next.length h.nc, .slice h.lp n.legal.length h.lc, .slice h.op n.goals.length h.oc, .slice h.sp n.sees.length h.sc, .int .i64 n.last, .bool n.hid] 28) := ⟨_, rfl⟩
  have K1 : Hid (Below w.heap.size w W1) := Lib.hid (by rw [hW1]; exact below_alloc _ _)
  have H1 : Hid (Has W1 w.heap.size (netC n h)) := Lib.hid (by rw [hW1]; exact Has.new _ _ _)
  obtain ⟨x1, x2, x3, x4, x5, x6, x7, x8, x9, x10, x11⟩ := hasN H1.out
  have M2 := Lib.hid (fun (e : k = 2) => show mostIx n k = n.bases.length by unfold mostIx; rw [if_pos e])
  have M3 := Lib.hid (fun (e : k ≠ 2) (e3 : k = 3) => show mostIx n k = n.inputs.length by unfold mostIx; rw [if_neg e, if_pos e3])
  have M4 := Lib.hid (fun (e : k ≠ 2) (e3 : k ≠ 3) => show mostIx n k = 1 by unfold mostIx; rw [if_neg e, if_neg e3])
  go_enter Tryz.func54, Tryz.ntmps54
  go_upto_region 1 with fail
  rw [← hW1]
  clear hW1 H1
  by_cases h2 : k = 2
  · have i2 : (k == 2) = true := by simp [h2]
    have MM := Lib.hid (M2.out h2)
    clear h2
    go_wp2_with fail
    go_ret
    exact ⟨by rw [MM.out]; rfl, K1.out⟩
  · have i2 : (k == 2) = false := by simp [h2]
    by_cases h3 : k = 3
    · have i3 : (k == 3) = true := by simp [h3]
      have MM := Lib.hid (M3.out h2 h3)
      clear h3 h2
      go_wp2_with fail
      go_ret
      exact ⟨by rw [MM.out]; rfl, K1.out⟩
    · have i3 : (k == 3) = false := by simp [h3]
      have MM := Lib.hid (M4.out h2 h3)
      clear h2 h3
      go_wp2_with fail
      go_ret
      exact ⟨by rw [MM.out]; rfl, K1.out⟩
theorem reads_any (k ix : Int) (p : Option Addr) (m c : Nat) (w : World) : Calls Tryz.prog 55 #[.agg #[.int .i64 k, .int .i64 ix, .slice p m c]] w fun e w' => e = .returned (.bool (readsB k m)) ∧ Below w.heap.size w w' := by
  obtain ⟨W1, hW1⟩ : ∃ z, z = w.alloc (.cells #[.int .i64 k, .int .i64 ix, .slice p m c] 55) := ⟨_, rfl⟩
  have K1 : Hid (Below w.heap.size w W1) := Lib.hid (by rw [hW1]; exact below_alloc _ _)
  have H1 : Has W1 w.heap.size #[.int .i64 k, .int .i64 ix, .slice p m c] := by rw [hW1]; exact Has.new _ _ _
  have x1 := H1.cell 0
  have x2 := H1.cell 1
  have x3 := H1.cell 2
  have R6 := Lib.hid (fun (e : k = 6) => show readsB k m = decide (m = 1) by unfold readsB; rw [if_pos e])
  have R5 := Lib.hid (fun (e : k ≠ 6) (e5 : k = 4 ∨ k = 5) => show readsB k m = decide (0 < m) by unfold readsB; rw [if_neg e, if_pos e5, Bool.eq_iff_iff]; simp only [decide_eq_true_eq]; omega)
  have R4 := Lib.hid (fun (e : k ≠ 6) (e5 : ¬ (k = 4 ∨ k = 5)) => show readsB k m = ((m : Int) == 0) by unfold readsB; rw [if_neg e, if_neg e5, Bool.eq_iff_iff]; simp)
  go_enter Tryz.func55, Tryz.ntmps55
  go_upto_region 1 with fail
  rw [← hW1]
  clear hW1 H1
  by_cases h6 : k = 6
  · have i6 : (k == 6) = true := by simp [h6]
    have MM := Lib.hid (R6.out h6)
    clear h6
    by_cases hm : 1 < m
    · have hm' : (1 : Int) < m := by omega
      have e1 : Hid (readsB k m = false) := Lib.hid (by rw [MM.out, decide_eq_false_iff_not]; omega)
      go_wp2_with fail
      go_ret
      exact ⟨by rw [e1.out]; rfl, K1.out⟩
    · have hm' : ¬ (1 : Int) < m := by omega
      have e1 : Hid (readsB k m = decide (0 < m)) := Lib.hid (by rw [MM.out, Bool.eq_iff_iff]; simp only [decide_eq_true_eq]; omega)
      go_wp2_with fail
      go_ret
      exact ⟨by rw [e1.out]; rfl, K1.out⟩
  · have i6 : (k == 6) = false := by simp [h6]
    by_cases h5 : k = 5
    · have i5 : (k == 5) = true := by simp [h5]
      have MM := Lib.hid (R5.out h6 (Or.inr h5))
      clear h5 h6
      go_wp2_with fail
      go_ret
      exact ⟨by rw [MM.out]; rfl, K1.out⟩
    · have i5 : (k == 5) = false := by simp [h5]
      by_cases h4 : k = 4
      · have i4 : (k == 4) = true := by simp [h4]
        have MM := Lib.hid (R5.out h6 (Or.inl h4))
        clear h4 h5 h6
        go_wp2_with fail
        go_ret
        exact ⟨by rw [MM.out]; rfl, K1.out⟩
      · have i4 : (k == 4) = false := by simp [h4]
        have MM := Lib.hid (R4.out h6 (by rintro (e | e); exact h4 e; exact h5 e))
        clear h4 h5 h6
        go_wp2_with fail
        go_ret
        exact ⟨by rw [MM.out]; rfl, K1.out⟩
end NetA
end Go.Proofs.YtgbbpliihglijaaGreat
/- ascend of the package at numbers, terms, inputs and outputs: whether a list ascends. No conditions but that the comparison answers. Made by gnB.py. -/
namespace Go.Proofs.YtgbbpliihglijaaGreat
open Go Go.RowKit
namespace NetB
open Kit LexM TermM TermI NetM NetN NetK NetA
theorem slin_at {B : Nat} {w : World} {l : List Tm} {p : Option Addr} {n c k : Nat} {x : Tm} (h : SlIn (· < B) w l (.slice p n c)) (hx : l[k]? = some x) :
    ∃ g o q d, p = some ⟨g, o, none⟩ ∧ g < B ∧ w.cell? ⟨g, o + k * 2, none⟩ = some (.string x.nm) ∧ w.cell? ⟨g, o + k * 2 + 1, none⟩ = some (.slice q x.args.length d) ∧ SlIn (· < B) w x.args (.slice q x.args.length d) ∧ x.nm.size ≤ maxLen := by
  obtain ⟨p', c', e, _, _, _, hR⟩ := h.row
  injection e with e1 _ _
  subst e1
  obtain ⟨t, b, o, q, d, h1, h2, h3, h4, h5, h6, h7⟩ := hR k (List.getElem?_eq_some_iff.1 hx).1
  rw [h1] at hx
  injection hx with hx
  subst hx
  exact ⟨b, o, q, d, h2, h3, h4, h5, h6, h7⟩
theorem slin_cap {B : Nat} {w : World} {l : List Tm} {p : Option Addr} {n c : Nat} (h : SlIn (· < B) w l (.slice p n c)) : n = l.length ∧ n ≤ c ∧ c ≤ maxLen := by
  obtain ⟨p', c', e, _, h1, h2, _⟩ := h.row
  injection e with _ e2 e3
  subst e2 e3
  exact ⟨rfl, h1, h2⟩
/-- Whether each element comes behind the one before it. -/
def ordB {α : Type} (cmp : α → α → Int) (l : List α) (d : α) : Bool := allN l.length fun j => decide (j = 0) || decide (cmp (l.getD (j - 1) d) (l.getD j d) < 0)
theorem ord_at {α : Type} {cmp : α → α → Int} {l : List α} {d x y : α} {k : Nat} (h1 : l[k]? = some x) (h2 : l[k + 1]? = some y) :
    (decide (k + 1 = 0) || decide (cmp (l.getD (k + 1 - 1) d) (l.getD (k + 1) d) < 0)) = decide (cmp x y < 0) := by
  rw [Nat.add_sub_cancel, List.getD_eq_getElem?_getD, List.getD_eq_getElem?_getD, h1, h2]
  simp
set_option maxRecDepth 100000 in
set_option maxHeartbeats 3200000 in
theorem ascT_any (cmp : Tm → Tm → Int) (l : List Tm) (d : Tm) (B : Nat) (w : World) (v : Value) (hB : B ≤ w.heap.size) (hl : SlIn (· < B) w l v)
    (hc : ∀ (k : Nat) (x y : Tm) (qx : Option Addr) (dx : Nat) (qy : Option Addr) (dy : Nat) w', l[k]? = some x → l[k + 1]? = some y → Below w.heap.size w w' → SlIn (· < B) w' x.args (.slice qx x.args.length dx) → SlIn (· < B) w' y.args (.slice qy y.args.length dy) → x.nm.size ≤ maxLen → y.nm.size ≤ maxLen → Calls Tryz.prog 59 #[.agg #[.string x.nm, .slice qx x.args.length dx], .agg #[.string y.nm, .slice qy y.args.length dy]] w' fun e w'' => e = .returned (.int .i64 (cmp x y)) ∧ Below w'.heap.size w' w'') :
    Calls Tryz.prog 58 #[v, .func (.func 59) #[] #[]] w fun e w' => e = .returned (.bool (ordB cmp l d)) ∧ Below w.heap.size w w' := by
  obtain ⟨p, c, rfl⟩ := hl.form
  have hcap : l.length ≤ maxLen := by obtain ⟨_, h1, h2⟩ := slin_cap hl; omega
  unfold maxLen at hcap
  have HL := Lib.hid hl
  have HC := Lib.hid hc
  have UT := Lib.hid (fun (h : ∀ j, j < l.length → (decide (j = 0) || decide (cmp (l.getD (j - 1) d) (l.getD j d) < 0)) = true) => show ordB cmp l d = true from alln_true.2 h)
  have UF := Lib.hid (fun (j : Nat) (hj : j < l.length) (h : (decide (j = 0) || decide (cmp (l.getD (j - 1) d) (l.getD j d) < 0)) = false) => show ordB cmp l d = false from alln_false hj h)
  clear hl hc
  generalize hR : ordB cmp l d = R at *
  clear hR
  generalize hn : l.length = n at *
  have HN := Lib.hid hn
  clear hn
  go_enter Tryz.func58, Tryz.ntmps58
  go_wp2_with fail
  go_loopw [5] (fun i wr => ∃ k : Nat, (k = 0 ∨ k < n) ∧ i = .int .i64 ((k : Int) + 1) ∧ Hid (∀ j, j ≤ k → j < n → (decide (j = 0) || decide (cmp (l.getD (j - 1) d) (l.getD j d) < 0)) = true) ∧ Hid (Below w.heap.size w wr)) (fun i _ => n + 1 - (intOf i).toNat)
  case atStart => exact ⟨0, Or.inl rfl, rfl, Lib.hid (fun j hj _ => by rw [show j = 0 by omega]; rfl), Lib.hid (Below.refl _ _)⟩
  case round =>
    obtain ⟨k, hk, rfl, hT, hD⟩ := hrel
    by_cases hlt : k + 1 < n
    · obtain ⟨x, hx⟩ : ∃ x, l[k]? = some x := ⟨l[k]'(by rw [HN.out]; omega), by simp⟩
      obtain ⟨y, hy⟩ : ∃ y, l[k + 1]? = some y := ⟨l[k + 1]'(by rw [HN.out]; omega), by simp⟩
      have hwr := hD.out.size
      obtain ⟨g, o, qx, dx, rfl, hg, cx0, cx1, sx, nx⟩ := slin_at HL.out hx
      obtain ⟨g', o', qy, dy, e, _, cy0, cy1, sy, ny⟩ := slin_at HL.out hy
      injection e with e
      injection e with e1 e2 _
      subst e1 e2
      have hgl : g < w.heap.size := by have : g < B := hg; omega
      have Hb : Hid (∀ w', Below wr.heap.size wr w' → w'.cell? ⟨g, o + k * 2, none⟩ = some (.string x.nm) ∧ w'.cell? ⟨g, o + k * 2 + 1, none⟩ = some (.slice qx x.args.length dx) ∧ w'.cell? ⟨g, o + (k + 1) * 2, none⟩ = some (.string y.nm) ∧ w'.cell? ⟨g, o + (k + 1) * 2 + 1, none⟩ = some (.slice qy y.args.length dy)) := Lib.hid (fun w' q => ⟨((next0 hD.out q).cell (p := ⟨g, _, none⟩) hgl).trans cx0, ((next0 hD.out q).cell (p := ⟨g, _, none⟩) hgl).trans cx1, ((next0 hD.out q).cell (p := ⟨g, _, none⟩) hgl).trans cy0, ((next0 hD.out q).cell (p := ⟨g, _, none⟩) hgl).trans cy1⟩)
      have KK := Lib.hid (fun w' (q : Below wr.heap.size wr w') => HC.out k x y qx dx qy dy w' hx hy (next0 hD.out q) (sx.frame fun b o hb => (next0 hD.out q).cell (p := ⟨b, o, none⟩) (Nat.lt_of_lt_of_le hb hB)) (sy.frame fun b o hb => (next0 hD.out q).cell (p := ⟨b, o, none⟩) (Nat.lt_of_lt_of_le hb hB)) nx ny)
      clear cx0 cx1 cy0 cy1 sx sy nx ny
      have UA := Lib.hid (ord_at (cmp := cmp) (d := d) hx hy)
      clear hx hy
      generalize cmp x y = cc at *
      generalize x.nm = a0 at *
      generalize x.args.length = a1 at *
      generalize y.nm = a2 at *
      generalize y.args.length = a3 at *
      have i1 : (k : Int) + 1 - 1 = (k : Int) := by omega
      have i2 : (k : Int) + 1 < n := by omega
      have i3 : (0 : Int) ≤ (k : Int) := by omega
      have i4 : (k : Int) < n := by omega
      have i5 : (0 : Int) ≤ (k : Int) + 1 := by omega
      have i6 : IntKind.i64.wrap ((k : Int) + 1 - 1) = (k : Int) := by rw [i1, IntKind.wrap_i64]; omega
      have i7 : ((k : Int) + 1).toNat = k + 1 := by omega
      have i9 : IntKind.i64.wrap (k : Int) = (k : Int) := by rw [IntKind.wrap_i64]; omega
      have i8 : (n : Int) ≤ 9223372036854775807 := by omega
      go_upto_region 4 with fail
      go_cut [23] (fun s wx => s = .bool (decide (0 ≤ cc)) ∧ Hid (Below wr.heap.size wr wx))
      case first =>
        have hq0 : Hid (Below wr.heap.size wr wr.drew) := Lib.hid (Below.refl _ _).drew
        obtain ⟨x1, x2, x3, x4⟩ := Hb.out _ hq0.out
        go_region_held3 (fun w' => w'.cell? ⟨g, o + k * 2, none⟩ = some (.string a0) ∧ w'.cell? ⟨g, o + k * 2 + 1, none⟩ = some (.slice qx a1 dx) ∧ w'.cell? ⟨g, o + (k + 1) * 2, none⟩ = some (.string a2) ∧ w'.cell? ⟨g, o + (k + 1) * 2 + 1, none⟩ = some (.slice qy a3 dy))
          (first | (with_reducible assumption) | (with_reducible exact ⟨‹_›, ‹_›, ‹_›, ‹_›⟩) | (with_reducible refine Hb.out _ ?_; repeat (first | (with_reducible exact Hid.out (by assumption)) | (with_reducible exact Below.refl _ _) | (with_reducible refine Below.drew ?_))))
          (first | (go_at_call 59; (try go_split_ands); (with_reducible refine (KK.out _ (by repeat (first | (with_reducible exact Hid.out (by assumption)) | (with_reducible exact Below.refl _ _) | (with_reducible refine Below.drew ?_)))).mono ?_); rintro e w' ⟨rfl, q0⟩; (have qg : Below wr.heap.size wr w' := by (refine next0 ?_ q0; repeat (first | (with_reducible exact Hid.out (by assumption)) | (with_reducible exact Below.refl _ _) | (with_reducible refine Below.drew ?_)))); clear q0; obtain ⟨x1, x2, x3, x4⟩ := Hb.out _ qg))
        all_goals
          go_wp2_with fail
          go_meet
          exact ⟨rfl, Lib.hid qg⟩
      case rest =>
        obtain ⟨rfl, hQ2⟩ := hcut
        have D2 := Lib.hid (next0 hD.out hQ2.out)
        by_cases h0 : 0 ≤ cc
        · have e0 : Hid (R = false) := Lib.hid (UF.out (k + 1) (by omega) (UA.out.trans (by rw [decide_eq_false_iff_not]; omega)))
          clear UT UF UA KK Hb
          go_wp2_with fail
          go_ret
          exact ⟨by rw [e0.out]; rfl, D2.out⟩
        · have T2 : Hid (∀ j, j ≤ k + 1 → j < n → (decide (j = 0) || decide (cmp (l.getD (j - 1) d) (l.getD j d) < 0)) = true) := Lib.hid (fun j hj hn => by
            by_cases e : j = k + 1
            · subst e
              exact UA.out.trans (by rw [decide_eq_true_eq]; omega)
            · exact hT.out j (by omega) hn)
          clear UA KK Hb
          go_wp2_with fail
          go_roundw
          case rel => exact ⟨k + 1, Or.inr (by omega), by go_num, T2, D2⟩
          case measure => simp [intOf]; omega
    · have e1 : Hid (R = true) := Lib.hid (UT.out (fun j hj => hT.out j (by omega) hj))
      have i2 : ¬ (k : Int) + 1 < n := by omega
      clear UT UF
      go_wp2_with fail
      go_ret
      exact ⟨by rw [e1.out]; rfl, hD.out⟩
set_option maxRecDepth 100000 in
set_option maxHeartbeats 3200000 in
theorem ascP_any (cmp : Ip → Ip → Int) (l : List Ip) (d : Ip) (B : Nat) (w : World) (v : Value) (hB : B ≤ w.heap.size) (hl : LE KP (· < B) w l v)
    (hc : ∀ (k : Nat) (x y : Ip) (qx : Option Addr) (dx : Nat) (qy : Option Addr) (dy : Nat) w', l[k]? = some x → l[k + 1]? = some y → Below w.heap.size w w' → KP.inn (· < B) w' (x, .slice qx x.2.args.length dx) → KP.inn (· < B) w' (y, .slice qy y.2.args.length dy) → Calls Tryz.prog 61 #[.agg #[.int .i64 x.1, .string x.2.nm, .slice qx x.2.args.length dx], .agg #[.int .i64 y.1, .string y.2.nm, .slice qy y.2.args.length dy]] w' fun e w'' => e = .returned (.int .i64 (cmp x y)) ∧ Below w'.heap.size w' w'') :
    Calls Tryz.prog 60 #[v, .func (.func 61) #[] #[]] w fun e w' => e = .returned (.bool (ordB cmp l d)) ∧ Below w.heap.size w w' := by
  obtain ⟨p, c, rfl⟩ := hl.form
  have hcap : l.length ≤ maxLen := by obtain ⟨_, h1, h2⟩ := hl.cap; omega
  unfold maxLen at hcap
  have HL := Lib.hid hl
  have HC := Lib.hid hc
  have UT := Lib.hid (fun (h : ∀ j, j < l.length → (decide (j = 0) || decide (cmp (l.getD (j - 1) d) (l.getD j d) < 0)) = true) => show ordB cmp l d = true from alln_true.2 h)
  have UF := Lib.hid (fun (j : Nat) (hj : j < l.length) (h : (decide (j = 0) || decide (cmp (l.getD (j - 1) d) (l.getD j d) < 0)) = false) => show ordB cmp l d = false from alln_false hj h)
  clear hl hc
  generalize hR : ordB cmp l d = R at *
  clear hR
  generalize hn : l.length = n at *
  have HN := Lib.hid hn
  clear hn
  go_enter Tryz.func60, Tryz.ntmps60
  go_wp2_with fail
  go_loopw [5] (fun i wr => ∃ k : Nat, (k = 0 ∨ k < n) ∧ i = .int .i64 ((k : Int) + 1) ∧ Hid (∀ j, j ≤ k → j < n → (decide (j = 0) || decide (cmp (l.getD (j - 1) d) (l.getD j d) < 0)) = true) ∧ Hid (Below w.heap.size w wr)) (fun i _ => n + 1 - (intOf i).toNat)
  case atStart => exact ⟨0, Or.inl rfl, rfl, Lib.hid (fun j hj _ => by rw [show j = 0 by omega]; rfl), Lib.hid (Below.refl _ _)⟩
  case round =>
    obtain ⟨k, hk, rfl, hT, hD⟩ := hrel
    by_cases hlt : k + 1 < n
    · obtain ⟨x, hx⟩ : ∃ x, l[k]? = some x := ⟨l[k]'(by rw [HN.out]; omega), by simp⟩
      obtain ⟨y, hy⟩ : ∃ y, l[k + 1]? = some y := ⟨l[k + 1]'(by rw [HN.out]; omega), by simp⟩
      have hwr := hD.out.size
      obtain ⟨vx, g, o, rfl, hg, ix, hcx⟩ := HL.out.at hx
      obtain ⟨vy, g', o', e, _, iy, hcy⟩ := HL.out.at hy
      injection e with e
      injection e with e1 e2 _
      subst e1 e2
      obtain ⟨qx, dx, ex⟩ : ∃ qx dx, vx = .slice qx x.2.args.length dx := ix.1.form
      obtain ⟨qy, dy, ey⟩ : ∃ qy dy, vy = .slice qy y.2.args.length dy := iy.1.form
      subst ex
      subst ey
      have hgl : g < w.heap.size := by have : g < B := hg; omega
      have Hb : Hid (∀ w', Below wr.heap.size wr w' → w'.cell? ⟨g, o + k * 3, none⟩ = some (.int .i64 x.1) ∧ w'.cell? ⟨g, o + k * 3 + 1, none⟩ = some (.string x.2.nm) ∧ w'.cell? ⟨g, o + k * 3 + 1 + 1, none⟩ = some (.slice qx x.2.args.length dx) ∧ w'.cell? ⟨g, o + (k + 1) * 3, none⟩ = some (.int .i64 y.1) ∧ w'.cell? ⟨g, o + (k + 1) * 3 + 1, none⟩ = some (.string y.2.nm) ∧ w'.cell? ⟨g, o + (k + 1) * 3 + 1 + 1, none⟩ = some (.slice qy y.2.args.length dy)) := Lib.hid (fun w' q => ⟨((next0 hD.out q).cell (p := ⟨g, _, none⟩) hgl).trans (hcx 0 _ rfl), ((next0 hD.out q).cell (p := ⟨g, _, none⟩) hgl).trans (hcx 1 _ rfl), ((next0 hD.out q).cell (p := ⟨g, _, none⟩) hgl).trans (hcx 2 _ rfl), ((next0 hD.out q).cell (p := ⟨g, _, none⟩) hgl).trans (hcy 0 _ rfl), ((next0 hD.out q).cell (p := ⟨g, _, none⟩) hgl).trans (hcy 1 _ rfl), ((next0 hD.out q).cell (p := ⟨g, _, none⟩) hgl).trans (hcy 2 _ rfl)⟩)
      have KK := Lib.hid (fun w' (q : Below wr.heap.size wr w') => HC.out k x y qx dx qy dy w' hx hy (next0 hD.out q) (KP.keep ix fun b o hb => (next0 hD.out q).cell (p := ⟨b, o, none⟩) (Nat.lt_of_lt_of_le hb hB)) (KP.keep iy fun b o hb => (next0 hD.out q).cell (p := ⟨b, o, none⟩) (Nat.lt_of_lt_of_le hb hB)))
      clear hcx hcy ix iy
      have UA := Lib.hid (ord_at (cmp := cmp) (d := d) hx hy)
      clear hx hy
      generalize cmp x y = cc at *
      generalize x.1 = a0 at *
      generalize x.2.nm = a1 at *
      generalize x.2.args.length = a2 at *
      generalize y.1 = a3 at *
      generalize y.2.nm = a4 at *
      generalize y.2.args.length = a5 at *
      have i1 : (k : Int) + 1 - 1 = (k : Int) := by omega
      have i2 : (k : Int) + 1 < n := by omega
      have i3 : (0 : Int) ≤ (k : Int) := by omega
      have i4 : (k : Int) < n := by omega
      have i5 : (0 : Int) ≤ (k : Int) + 1 := by omega
      have i6 : IntKind.i64.wrap ((k : Int) + 1 - 1) = (k : Int) := by rw [i1, IntKind.wrap_i64]; omega
      have i7 : ((k : Int) + 1).toNat = k + 1 := by omega
      have i9 : IntKind.i64.wrap (k : Int) = (k : Int) := by rw [IntKind.wrap_i64]; omega
      have i8 : (n : Int) ≤ 9223372036854775807 := by omega
      go_upto_region 4 with fail
      go_cut [23] (fun s wx => s = .bool (decide (0 ≤ cc)) ∧ Hid (Below wr.heap.size wr wx))
      case first =>
        have hq0 : Hid (Below wr.heap.size wr wr.drew) := Lib.hid (Below.refl _ _).drew
        obtain ⟨x1, x2, x3, x4, x5, x6⟩ := Hb.out _ hq0.out
        go_region_held3 (fun w' => w'.cell? ⟨g, o + k * 3, none⟩ = some (.int .i64 a0) ∧ w'.cell? ⟨g, o + k * 3 + 1, none⟩ = some (.string a1) ∧ w'.cell? ⟨g, o + k * 3 + 1 + 1, none⟩ = some (.slice qx a2 dx) ∧ w'.cell? ⟨g, o + (k + 1) * 3, none⟩ = some (.int .i64 a3) ∧ w'.cell? ⟨g, o + (k + 1) * 3 + 1, none⟩ = some (.string a4) ∧ w'.cell? ⟨g, o + (k + 1) * 3 + 1 + 1, none⟩ = some (.slice qy a5 dy))
          (first | (with_reducible assumption) | (with_reducible exact ⟨‹_›, ‹_›, ‹_›, ‹_›, ‹_›, ‹_›⟩) | (with_reducible refine Hb.out _ ?_; repeat (first | (with_reducible exact Hid.out (by assumption)) | (with_reducible exact Below.refl _ _) | (with_reducible refine Below.drew ?_))))
          (first | (go_at_call 61; (try go_split_ands); (with_reducible refine (KK.out _ (by repeat (first | (with_reducible exact Hid.out (by assumption)) | (with_reducible exact Below.refl _ _) | (with_reducible refine Below.drew ?_)))).mono ?_); rintro e w' ⟨rfl, q0⟩; (have qg : Below wr.heap.size wr w' := by (refine next0 ?_ q0; repeat (first | (with_reducible exact Hid.out (by assumption)) | (with_reducible exact Below.refl _ _) | (with_reducible refine Below.drew ?_)))); clear q0; obtain ⟨x1, x2, x3, x4, x5, x6⟩ := Hb.out _ qg))
        all_goals
          go_wp2_with fail
          go_meet
          exact ⟨rfl, Lib.hid qg⟩
      case rest =>
        obtain ⟨rfl, hQ2⟩ := hcut
        have D2 := Lib.hid (next0 hD.out hQ2.out)
        by_cases h0 : 0 ≤ cc
        · have e0 : Hid (R = false) := Lib.hid (UF.out (k + 1) (by omega) (UA.out.trans (by rw [decide_eq_false_iff_not]; omega)))
          clear UT UF UA KK Hb
          go_wp2_with fail
          go_ret
          exact ⟨by rw [e0.out]; rfl, D2.out⟩
        · have T2 : Hid (∀ j, j ≤ k + 1 → j < n → (decide (j = 0) || decide (cmp (l.getD (j - 1) d) (l.getD j d) < 0)) = true) := Lib.hid (fun j hj hn => by
            by_cases e : j = k + 1
            · subst e
              exact UA.out.trans (by rw [decide_eq_true_eq]; omega)
            · exact hT.out j (by omega) hn)
          clear UA KK Hb
          go_wp2_with fail
          go_roundw
          case rel => exact ⟨k + 1, Or.inr (by omega), by go_num, T2, D2⟩
          case measure => simp [intOf]; omega
    · have e1 : Hid (R = true) := Lib.hid (UT.out (fun j hj => hT.out j (by omega) hj))
      have i2 : ¬ (k : Int) + 1 < n := by omega
      clear UT UF
      go_wp2_with fail
      go_ret
      exact ⟨by rw [e1.out]; rfl, hD.out⟩
set_option maxRecDepth 100000 in
set_option maxHeartbeats 3200000 in
theorem ascO_any (cmp : Ou → Ou → Int) (l : List Ou) (d : Ou) (B : Nat) (w : World) (v : Value) (hB : B ≤ w.heap.size) (hl : LE KO (· < B) w l v)
    (hc : ∀ (k : Nat) (x y : Ou) (qx : Option Addr) (dx : Nat) (qy : Option Addr) (dy : Nat) w', l[k]? = some x → l[k + 1]? = some y → Below w.heap.size w w' → KO.inn (· < B) w' (x, .slice qx x.2.2.1.args.length dx) → KO.inn (· < B) w' (y, .slice qy y.2.2.1.args.length dy) → Calls Tryz.prog 64 #[.agg #[.int .i64 x.1, .int .i64 x.2.1, .string x.2.2.1.nm, .slice qx x.2.2.1.args.length dx, .int .i64 x.2.2.2], .agg #[.int .i64 y.1, .int .i64 y.2.1, .string y.2.2.1.nm, .slice qy y.2.2.1.args.length dy, .int .i64 y.2.2.2]] w' fun e w'' => e = .returned (.int .i64 (cmp x y)) ∧ Below w'.heap.size w' w'') :
    Calls Tryz.prog 63 #[v, .func (.func 64) #[] #[]] w fun e w' => e = .returned (.bool (ordB cmp l d)) ∧ Below w.heap.size w w' := by
  obtain ⟨p, c, rfl⟩ := hl.form
  have hcap : l.length ≤ maxLen := by obtain ⟨_, h1, h2⟩ := hl.cap; omega
  unfold maxLen at hcap
  have HL := Lib.hid hl
  have HC := Lib.hid hc
  have UT := Lib.hid (fun (h : ∀ j, j < l.length → (decide (j = 0) || decide (cmp (l.getD (j - 1) d) (l.getD j d) < 0)) = true) => show ordB cmp l d = true from alln_true.2 h)
  have UF := Lib.hid (fun (j : Nat) (hj : j < l.length) (h : (decide (j = 0) || decide (cmp (l.getD (j - 1) d) (l.getD j d) < 0)) = false) => show ordB cmp l d = false from alln_false hj h)
  clear hl hc
  generalize hR : ordB cmp l d = R at *
  clear hR
  generalize hn : l.length = n at *
  have HN := Lib.hid hn
  clear hn
  go_enter Tryz.func63, Tryz.ntmps63
  go_wp2_with fail
  go_loopw [5] (fun i wr => ∃ k : Nat, (k = 0 ∨ k < n) ∧ i = .int .i64 ((k : Int) + 1) ∧ Hid (∀ j, j ≤ k → j < n → (decide (j = 0) || decide (cmp (l.getD (j - 1) d) (l.getD j d) < 0)) = true) ∧ Hid (Below w.heap.size w wr)) (fun i _ => n + 1 - (intOf i).toNat)
  case atStart => exact ⟨0, Or.inl rfl, rfl, Lib.hid (fun j hj _ => by rw [show j = 0 by omega]; rfl), Lib.hid (Below.refl _ _)⟩
  case round =>
    obtain ⟨k, hk, rfl, hT, hD⟩ := hrel
    by_cases hlt : k + 1 < n
    · obtain ⟨x, hx⟩ : ∃ x, l[k]? = some x := ⟨l[k]'(by rw [HN.out]; omega), by simp⟩
      obtain ⟨y, hy⟩ : ∃ y, l[k + 1]? = some y := ⟨l[k + 1]'(by rw [HN.out]; omega), by simp⟩
      have hwr := hD.out.size
      obtain ⟨vx, g, o, rfl, hg, ix, hcx⟩ := HL.out.at hx
      obtain ⟨vy, g', o', e, _, iy, hcy⟩ := HL.out.at hy
      injection e with e
      injection e with e1 e2 _
      subst e1 e2
      obtain ⟨qx, dx, ex⟩ : ∃ qx dx, vx = .slice qx x.2.2.1.args.length dx := ix.1.form
      obtain ⟨qy, dy, ey⟩ : ∃ qy dy, vy = .slice qy y.2.2.1.args.length dy := iy.1.form
      subst ex
      subst ey
      have hgl : g < w.heap.size := by have : g < B := hg; omega
      have Hb : Hid (∀ w', Below wr.heap.size wr w' → w'.cell? ⟨g, o + k * 5, none⟩ = some (.int .i64 x.1) ∧ w'.cell? ⟨g, o + k * 5 + 1, none⟩ = some (.int .i64 x.2.1) ∧ w'.cell? ⟨g, o + k * 5 + 2, none⟩ = some (.string x.2.2.1.nm) ∧ w'.cell? ⟨g, o + k * 5 + 2 + 1, none⟩ = some (.slice qx x.2.2.1.args.length dx) ∧ w'.cell? ⟨g, o + k * 5 + 4, none⟩ = some (.int .i64 x.2.2.2) ∧ w'.cell? ⟨g, o + (k + 1) * 5, none⟩ = some (.int .i64 y.1) ∧ w'.cell? ⟨g, o + (k + 1) * 5 + 1, none⟩ = some (.int .i64 y.2.1) ∧ w'.cell? ⟨g, o + (k + 1) * 5 + 2, none⟩ = some (.string y.2.2.1.nm) ∧ w'.cell? ⟨g, o + (k + 1) * 5 + 2 + 1, none⟩ = some (.slice qy y.2.2.1.args.length dy) ∧ w'.cell? ⟨g, o + (k + 1) * 5 + 4, none⟩ = some (.int .i64 y.2.2.2)) := Lib.hid (fun w' q => ⟨((next0 hD.out q).cell (p := ⟨g, _, none⟩) hgl).trans (hcx 0 _ rfl), ((next0 hD.out q).cell (p := ⟨g, _, none⟩) hgl).trans (hcx 1 _ rfl), ((next0 hD.out q).cell (p := ⟨g, _, none⟩) hgl).trans (hcx 2 _ rfl), ((next0 hD.out q).cell (p := ⟨g, _, none⟩) hgl).trans (hcx 3 _ rfl), ((next0 hD.out q).cell (p := ⟨g, _, none⟩) hgl).trans (hcx 4 _ rfl), ((next0 hD.out q).cell (p := ⟨g, _, none⟩) hgl).trans (hcy 0 _ rfl), ((next0 hD.out q).cell (p := ⟨g, _, none⟩) hgl).trans (hcy 1 _ rfl), ((next0 hD.out q).cell (p := ⟨g, _, none⟩) hgl).trans (hcy 2 _ rfl), ((next0 hD.out q).cell (p := ⟨g, _, none⟩) hgl).trans (hcy 3 _ rfl), ((next0 hD.out q).cell (p := ⟨g, _, none⟩) hgl).trans (hcy 4 _ rfl)⟩)
      have KK := Lib.hid (fun w' (q : Below wr.heap.size wr w') => HC.out k x y qx dx qy dy w' hx hy (next0 hD.out q) (KO.keep ix fun b o hb => (next0 hD.out q).cell (p := ⟨b, o, none⟩) (Nat.lt_of_lt_of_le hb hB)) (KO.keep iy fun b o hb => (next0 hD.out q).cell (p := ⟨b, o, none⟩) (Nat.lt_of_lt_of_le hb hB)))
      clear hcx hcy ix iy
      have UA := Lib.hid (ord_at (cmp := cmp) (d := d) hx hy)
      clear hx hy
      generalize cmp x y = cc at *
      generalize x.1 = a0 at *
      generalize x.2.1 = a1 at *
      generalize x.2.2.1.nm = a2 at *
      generalize x.2.2.1.args.length = a3 at *
      generalize x.2.2.2 = a4 at *
      generalize y.1 = a5 at *
      generalize y.2.1 = a6 at *
      generalize y.2.2.1.nm = a7 at *
      generalize y.2.2.1.args.length = a8 at *
      generalize y.2.2.2 = a9 at *
      have i1 : (k : Int) + 1 - 1 = (k : Int) := by omega
      have i2 : (k : Int) + 1 < n := by omega
      have i3 : (0 : Int) ≤ (k : Int) := by omega
      have i4 : (k : Int) < n := by omega
      have i5 : (0 : Int) ≤ (k : Int) + 1 := by omega
      have i6 : IntKind.i64.wrap ((k : Int) + 1 - 1) = (k : Int) := by rw [i1, IntKind.wrap_i64]; omega
      have i7 : ((k : Int) + 1).toNat = k + 1 := by omega
      have i9 : IntKind.i64.wrap (k : Int) = (k : Int) := by rw [IntKind.wrap_i64]; omega
      have i8 : (n : Int) ≤ 9223372036854775807 := by omega
      go_upto_region 4 with fail
      go_cut [23] (fun s wx => s = .bool (decide (0 ≤ cc)) ∧ Hid (Below wr.heap.size wr wx))
      case first =>
        have hq0 : Hid (Below wr.heap.size wr wr.drew) := Lib.hid (Below.refl _ _).drew
        obtain ⟨x1, x2, x3, x4, x5, x6, x7, x8, x9, x10⟩ := Hb.out _ hq0.out
        go_region_held3 (fun w' => w'.cell? ⟨g, o + k * 5, none⟩ = some (.int .i64 a0) ∧ w'.cell? ⟨g, o + k * 5 + 1, none⟩ = some (.int .i64 a1) ∧ w'.cell? ⟨g, o + k * 5 + 2, none⟩ = some (.string a2) ∧ w'.cell? ⟨g, o + k * 5 + 2 + 1, none⟩ = some (.slice qx a3 dx) ∧ w'.cell? ⟨g, o + k * 5 + 4, none⟩ = some (.int .i64 a4) ∧ w'.cell? ⟨g, o + (k + 1) * 5, none⟩ = some (.int .i64 a5) ∧ w'.cell? ⟨g, o + (k + 1) * 5 + 1, none⟩ = some (.int .i64 a6) ∧ w'.cell? ⟨g, o + (k + 1) * 5 + 2, none⟩ = some (.string a7) ∧ w'.cell? ⟨g, o + (k + 1) * 5 + 2 + 1, none⟩ = some (.slice qy a8 dy) ∧ w'.cell? ⟨g, o + (k + 1) * 5 + 4, none⟩ = some (.int .i64 a9))
          (first | (with_reducible assumption) | (with_reducible exact ⟨‹_›, ‹_›, ‹_›, ‹_›, ‹_›, ‹_›, ‹_›, ‹_›, ‹_›, ‹_›⟩) | (with_reducible refine Hb.out _ ?_; repeat (first | (with_reducible exact Hid.out (by assumption)) | (with_reducible exact Below.refl _ _) | (with_reducible refine Below.drew ?_))))
          (first | (go_at_call 64; (try go_split_ands); (with_reducible refine (KK.out _ (by repeat (first | (with_reducible exact Hid.out (by assumption)) | (with_reducible exact Below.refl _ _) | (with_reducible refine Below.drew ?_)))).mono ?_); rintro e w' ⟨rfl, q0⟩; (have qg : Below wr.heap.size wr w' := by (refine next0 ?_ q0; repeat (first | (with_reducible exact Hid.out (by assumption)) | (with_reducible exact Below.refl _ _) | (with_reducible refine Below.drew ?_)))); clear q0; obtain ⟨x1, x2, x3, x4, x5, x6, x7, x8, x9, x10⟩ := Hb.out _ qg))
        all_goals
          go_wp2_with fail
          go_meet
          exact ⟨rfl, Lib.hid qg⟩
      case rest =>
        obtain ⟨rfl, hQ2⟩ := hcut
        have D2 := Lib.hid (next0 hD.out hQ2.out)
        by_cases h0 : 0 ≤ cc
        · have e0 : Hid (R = false) := Lib.hid (UF.out (k + 1) (by omega) (UA.out.trans (by rw [decide_eq_false_iff_not]; omega)))
          clear UT UF UA KK Hb
          go_wp2_with fail
          go_ret
          exact ⟨by rw [e0.out]; rfl, D2.out⟩
        · have T2 : Hid (∀ j, j ≤ k + 1 → j < n → (decide (j = 0) || decide (cmp (l.getD (j - 1) d) (l.getD j d) < 0)) = true) := Lib.hid (fun j hj hn => by
            by_cases e : j = k + 1
            · subst e
              exact UA.out.trans (by rw [decide_eq_true_eq]; omega)
            · exact hT.out j (by omega) hn)
          clear UA KK Hb
          go_wp2_with fail
          go_roundw
          case rel => exact ⟨k + 1, Or.inr (by omega), by go_num, T2, D2⟩
          case measure => simp [intOf]; omega
    · have e1 : Hid (R = true) := Lib.hid (UT.out (fun j hj => hT.out j (by omega) hj))
      have i2 : ¬ (k : Int) + 1 < n := by omega
      clear UT UF
      go_wp2_with fail
      go_ret
      exact ⟨by rw [e1.out]; rfl, hD.out⟩
end NetB
end Go.Proofs.YtgbbpliihglijaaGreat
/- subset.Valid, cmp.Or and the comparisons of inputs and outputs. Conditions: the names have an int's length. Made by gnC.py and gnSu.py. -/
namespace Go.Proofs.YtgbbpliihglijaaGreat
open Go Go.RowKit
namespace NetC
open Kit LexM TermM TermI NetM NetN NetK NetA NetB
/-- The numbers of a row, in every later world. -/
theorem readn {ok : Nat → Prop} {w : World} {L : List Int} {p : Option Addr} {n c : Nat} (h : RowE KN ok w L (.slice p n c)) (hk : ∀ b, ok b → b < w.heap.size) :
    ∀ (j : Nat) x, L[j]? = some x → ∀ w', Below w.heap.size w w' → ∃ g o, p = some ⟨g, o, none⟩ ∧ w'.cell? ⟨g, o + j, none⟩ = some (.int .i64 x) := by
  intro j x hx w' q
  obtain ⟨g, o, e1, e2, _, e4⟩ := h.at hx
  refine ⟨g, o, e1, (q.cell (p := ⟨g, _, none⟩) (hk g e2)).trans ?_⟩
  have := e4 0 _ rfl
  simpa [KN] using this
set_option maxRecDepth 100000 in
set_option maxHeartbeats 3200000 in
theorem ascb_any (l : List Int) (most : Int) (B : Nat) (w : World) (v : Value) (hB : B ≤ w.heap.size) (hl : RowE KN (· < B) w l v) :
    Calls Tryz.prog 28 #[v, .int .i64 most] w fun e w' => e = .returned (.bool (numsB l most)) ∧ Below w.heap.size w w' := by
  obtain ⟨p, c, rfl⟩ := hl.form
  have hcap : l.length ≤ maxLen := by obtain ⟨_, h1, h2⟩ := hl.cap; omega
  unfold maxLen at hcap
  have IR := Lib.hid (readn hl (fun b (h : b < B) => Nat.lt_of_lt_of_le h hB))
  have NT : Hid ((∀ j, j < l.length → numAt l most j = true) → numsB l most = true) := Lib.hid (fun h => alln_true.2 h)
  have NF : Hid (∀ j, j < l.length → numAt l most j = false → numsB l most = false) := Lib.hid (fun j hj h => alln_false hj h)
  clear hl
  generalize numsB l most = R at *
  generalize hn : l.length = m at *
  have HML := Lib.hid hn
  clear hn
  go_enter Tryz.func28, Tryz.ntmps28
  go_wp2_with fail
  go_loopw [9] (fun j wr => ∃ k : Nat, k ≤ m ∧ j = .int .i64 k ∧ Hid (∀ j, j < k → numAt l most j = true) ∧ Hid (Below w.heap.size w wr)) (fun j _ => m - (intOf j).toNat)
  case atStart => exact ⟨0, Nat.zero_le _, rfl, Lib.hid (fun j hj => by omega), Lib.hid (Below.refl _ _)⟩
  case round =>
    obtain ⟨k, hk, rfl, hT, hD⟩ := hrel
    by_cases hlt : k < m
    · obtain ⟨y, hy⟩ : ∃ y, l[k]? = some y := ⟨l[k]'(by rw [HML.out]; exact hlt), by simp⟩
      obtain ⟨g, o2, rfl, c1⟩ := IR.out k y hy wr hD.out
      have AY := Lib.hid (at_get hy)
      have j1 : (k : Int) < m := by omega
      have j0 : (0 : Int) ≤ (k : Int) := by omega
      have NA : Hid (numAt l most k = (inB y most && (decide (k = 0) || decide (at0 l (k - 1) < y)))) := Lib.hid (by unfold numAt; rw [AY.out])
      have IB : Hid (inB y most = (decide (0 ≤ y) && decide (y < most))) := Lib.hid rfl
      have NF1 := Lib.hid (NF.out k hlt)
      obtain ⟨G, hG⟩ : ∃ G, numAt l most k = G := ⟨_, rfl⟩
      rw [hG] at NA NF1
      have GG := Lib.hid hG
      clear hG
      have BAD : Hid (G = false → R = false) := Lib.hid (fun e => NF1.out e)
      have T2 : Hid (G = true → ∀ j, j < k + 1 → numAt l most j = true) := Lib.hid (fun e j hj => by
        by_cases ej : j = k
        · subst ej
          exact GG.out.trans e
        · exact hT.out j (by omega))
      have HY := Lib.hid hy
      clear hy NF1
      generalize inB y most = iy at *
      go_upto_region 4 with fail
      by_cases y0 : y < 0
      · have e0 := Lib.hid (BAD.out (by rw [NA.out, IB.out, decide_eq_false (by omega)]; rfl))
        clear NA IB BAD T2
        skip
        go_wp2_with fail
        go_ret
        exact ⟨by rw [e0.out]; rfl, hD.out⟩
      by_cases y1 : most ≤ y
      · have e0 := Lib.hid (BAD.out (by rw [NA.out, IB.out, decide_eq_false (show ¬ y < most by omega), Bool.and_false, Bool.false_and]))
        clear NA IB BAD T2
        skip
        go_wp2_with fail
        go_ret
        exact ⟨by rw [e0.out]; rfl, hD.out⟩
      have NA2 : Hid (G = (decide (k = 0) || decide (at0 l (k - 1) < y))) := Lib.hid (by rw [NA.out, IB.out, decide_eq_true (by omega), decide_eq_true (by omega)]; rfl)
      clear NA IB
      by_cases hk0 : k = 0
      · have T3 := Lib.hid (T2.out (by rw [NA2.out, decide_eq_true hk0]; rfl))
        have j2 : ¬ (0 : Int) < (k : Int) := by omega
        have j2n : ¬ 0 < k := by omega
        have j2d : decide (0 < k) = false := decide_eq_false j2n
        clear BAD T2 NA2 hk0
        skip
        go_wp2_with fail
        go_roundw
        case rel => first | exact ⟨k + 1, by omega, by go_num, T3, Lib.hid (hD.out)⟩ | ((repeat (apply Exists.intro)); refine ⟨?_, rfl⟩; exact ⟨k + 1, by omega, by go_num, T3, Lib.hid (hD.out)⟩)
        case measure => simp [intOf]; omega
      · obtain ⟨x, hx⟩ : ∃ x, l[k - 1]? = some x := ⟨l[k - 1]'(by rw [HML.out]; omega), by simp⟩
        obtain ⟨g', o', ep, c2⟩ := IR.out (k - 1) x hx wr hD.out
        injection ep with ep
        injection ep with e1 e2 _
        subst e1 e2
        have AX := Lib.hid (at_get hx)
        obtain ⟨k1, hk1⟩ : ∃ k1, k1 = k - 1 := ⟨_, rfl⟩
        rw [← hk1] at c2
        have j2 : (0 : Int) < (k : Int) := by omega
        have j2n : 0 < k := by omega
        have j2d : decide (0 < k) = true := decide_eq_true j2n
        have j3 : (k : Int) - 1 = (k1 : Int) := by omega
        have j4 : (0 : Int) ≤ (k1 : Int) := by omega
        have j5 : (k1 : Int) < m := by omega
        have j6 : IntKind.i64.wrap ((k : Int) - 1) = (k1 : Int) := by rw [j3, IntKind.wrap_i64]; omega
        have j7 : IntKind.i64.wrap (k1 : Int) = (k1 : Int) := by rw [IntKind.wrap_i64]; omega
        have NA3 : Hid (G = decide (x < y)) := Lib.hid (by rw [NA2.out, decide_eq_false hk0, AX.out]; rfl)
        clear hx hk1 hk0 NA2
        by_cases hxy : y ≤ x
        · have e0 := Lib.hid (BAD.out (by rw [NA3.out, decide_eq_false (by omega)]))
          clear BAD T2 NA3
          skip
          go_wp2_with fail
          go_ret
          exact ⟨by rw [e0.out]; rfl, hD.out⟩
        · have T3 := Lib.hid (T2.out (by rw [NA3.out, decide_eq_true (by omega)]))
          clear BAD T2 NA3
          skip
          go_wp2_with fail
          go_roundw
          case rel => first | exact ⟨k + 1, by omega, by go_num, T3, Lib.hid (hD.out)⟩ | ((repeat (apply Exists.intro)); refine ⟨?_, rfl⟩; exact ⟨k + 1, by omega, by go_num, T3, Lib.hid (hD.out)⟩)
          case measure => simp [intOf]; omega
    · obtain rfl : k = m := by omega
      have e0 := Lib.hid (NT.out hT.out)
      go_wp2_with fail
      go_ret
      exact ⟨by rw [e0.out]; rfl, hD.out⟩
/-- The first of some numbers that is not zero. -/
def orL : List Int → Int
  | [] => 0
  | a :: r => if a = 0 then orL r else a
theorem orl_zero : ∀ {l : List Int}, (∀ x ∈ l, x = 0) → orL l = 0
  | [], _ => rfl
  | a :: r, h => by unfold orL; rw [if_pos (h a (by simp))]; exact orl_zero fun x hx => h x (by simp [hx])
theorem orl_hit : ∀ {l : List Int} {k : Nat} {x : Int}, l[k]? = some x → (∀ j y, j < k → l[j]? = some y → y = 0) → x ≠ 0 → orL l = x
  | [], _, _, h, _, _ => by simp at h
  | a :: r, 0, x, h, _, hx => by
    simp at h
    subst h
    unfold orL
    rw [if_neg hx]
  | a :: r, k + 1, x, h, ht, hx => by
    unfold orL
    rw [if_pos (ht 0 a (by omega) rfl)]
    exact orl_hit (by simpa using h) (fun j y hj hy => ht (j + 1) y (by omega) (by simpa using hy)) hx
set_option maxRecDepth 100000 in
set_option maxHeartbeats 3200000 in
theorem or_any (l : List Int) (g n : Nat) (w : World) (hn : l.length = n) (h9 : n ≤ 9) (hc : ∀ k x, l[k]? = some x → w.cell? ⟨g, k, none⟩ = some (.int .i64 x)) :
    Calls Tryz.prog 80 #[.slice (some ⟨g, 0, none⟩) n n] w fun e w' => e = .returned (.int .i64 (orL l)) ∧ w = w' := by
  have Z := Lib.hid (fun h => orl_zero (l := l) h)
  have HT := Lib.hid (fun k x h1 h2 h3 => orl_hit (l := l) (k := k) (x := x) h1 h2 h3)
  have HC := Lib.hid hc
  have HN := Lib.hid hn
  clear hc hn
  generalize orL l = R at *
  go_enter Tryz.func80, Tryz.ntmps80
  go_wp2_with fail
  go_loopw [8] (fun i wr => ∃ k : Nat, k ≤ n ∧ i = .int .i64 k ∧ Hid (∀ j y, j < k → l[j]? = some y → y = 0) ∧ w = wr) (fun i _ => n - (intOf i).toNat)
  case atStart => exact ⟨0, Nat.zero_le _, rfl, Lib.hid (fun j y hj => by omega), rfl⟩
  case round =>
    obtain ⟨k, hk, rfl, hT, rfl⟩ := hrel
    by_cases hlt : k < n
    · obtain ⟨x, hx⟩ : ∃ x, l[k]? = some x := ⟨l[k]'(by rw [HN.out]; omega), by simp⟩
      have c1 := HC.out k x hx
      have HX := Lib.hid hx
      clear hx
      by_cases h0 : x = 0
      · have i1 : (x != 0) = false := by simp [h0]
        have T2 : Hid (∀ j y, j < k + 1 → l[j]? = some y → y = 0) := Lib.hid (fun j y hj hy => by
          by_cases e : j = k
          · subst e
            rw [HX.out] at hy
            injection hy with hy
            rw [← hy]
            exact h0
          · exact hT.out j y (by omega) hy)
        go_wp2_with fail
        go_roundw
        case rel => exact ⟨k + 1, by omega, by go_num, T2, by first | rfl | trivial⟩
        case measure => simp [intOf]; omega
      · have i1 : (x != 0) = true := by simp [h0]
        have e0 := Lib.hid (HT.out k x HX.out hT.out h0)
        clear h0
        go_wp2_with fail
        go_ret
        exact ⟨by rw [e0.out]; rfl, rfl⟩
    · obtain rfl : k = n := by omega
      have e0 := Lib.hid (Z.out (fun x hx => by
        obtain ⟨j, hj⟩ := List.mem_iff_getElem?.1 hx
        have := (List.getElem?_eq_some_iff.1 hj).1
        exact hT.out j x (by have := HN.out; omega) hj))
      go_wp2_with fail
      go_ret
      exact ⟨by rw [e0.out]; rfl, rfl⟩
theorem or2 (a b : Int) (w : World) : Calls Tryz.prog 80 #[.slice (some ⟨w.heap.size, 0, none⟩) 2 2] (w.alloc (.cells #[.int .i64 a, .int .i64 b] 3)) fun e w' => e = .returned (.int .i64 (orL [a, b])) ∧ w.alloc (.cells #[.int .i64 a, .int .i64 b] 3) = w' :=
  or_any [a, b] w.heap.size 2 _ rfl (by omega) fun k x h => by
    have hh : Has (w.alloc (.cells #[.int .i64 a, .int .i64 b] 3)) w.heap.size #[.int .i64 a, .int .i64 b] := Has.new _ _ _
    match k, h with
    | 0, h => simp at h; subst h; exact hh.cell 0
    | 1, h => simp at h; subst h; exact hh.cell 1
    | k + 2, h => simp at h
theorem or3 (a b c : Int) (w : World) : Calls Tryz.prog 80 #[.slice (some ⟨w.heap.size, 0, none⟩) 3 3] (w.alloc (.cells #[.int .i64 a, .int .i64 b, .int .i64 c] 3)) fun e w' => e = .returned (.int .i64 (orL [a, b, c])) ∧ w.alloc (.cells #[.int .i64 a, .int .i64 b, .int .i64 c] 3) = w' :=
  or_any [a, b, c] w.heap.size 3 _ rfl (by omega) fun k x h => by
    have hh : Has (w.alloc (.cells #[.int .i64 a, .int .i64 b, .int .i64 c] 3)) w.heap.size #[.int .i64 a, .int .i64 b, .int .i64 c] := Has.new _ _ _
    match k, h with
    | 0, h => simp at h; subst h; exact hh.cell 0
    | 1, h => simp at h; subst h; exact hh.cell 1
    | 2, h => simp at h; subst h; exact hh.cell 2
    | k + 3, h => simp at h
end NetC
end Go.Proofs.YtgbbpliihglijaaGreat
