/- The parser as a plain function of tokens. No conditions. -/
import Derived.Test.YtdalepdpobcpaaaDoorLexP
import Derived.Test.YtdalepdpobcpaaaDoorTermM
namespace Go.Proofs.YtdalepdpobcpaaaDoor
open Go
namespace ParM
open LexM TermM LexP
inductive Out (α : Type) where
  | good (x : α) (r : List GTok) : Out α
  | bad (at_ err : Int) : Out α
def Out.then {α β : Type} : Out α → (α → List GTok → Out β) → Out β
  | .good x r, f => f x r
  | .bad a e, _ => .bad a e
def hd (ts : List GTok) : GTok := ts.headD (0, ⟨#[]⟩, 0)
def begB (t : GTok) : Bool := t.1 == 1 || (t.1 == 2 || t.1 == 3)
def atomB (t : GTok) : Bool := t.1 == 1
def isB (t : GTok) (s : ByteArray) : Bool := t.2.1.toList == s.toList
def sOpen : ByteArray := ⟨#[40]⟩
def sShut : ByteArray := ⟨#[41]⟩
def sComma : ByteArray := ⟨#[44]⟩
def sDot : ByteArray := ⟨#[46]⟩
def sIf : ByteArray := ⟨#[105, 102]⟩
def sAnd : ByteArray := ⟨#[97, 110, 100]⟩
def sNot : ByteArray := ⟨#[110, 111, 116]⟩
/-- More arguments behind the first ones. -/
def moreF (f : List GTok → Out Tm) : Nat → List Tm → List GTok → Out (List Tm)
  | 0, _, _ => .bad 0 0
  | n + 1, l, ts => if isB (hd ts) sComma = true then
      (if (decide (l.length = 4) && begB (hd ts.tail)) = true then .bad (hd ts.tail).2.2 5 else (f ts.tail).then fun t r => moreF f n (l ++ [t]) r)
    else if isB (hd ts) sShut = true then .good l ts.tail else .bad (hd ts).2.2 1
def argsF (f : List GTok → Out Tm) (ts : List GTok) : Out (List Tm) :=
  if isB (hd ts) sOpen = true then (f ts.tail).then fun t r => moreF f 4 [t] r else .good [] ts
/-- A term with so many levels left. -/
def termF : Nat → List GTok → Out Tm
  | 0, ts => if begB (hd ts) = false then .bad (hd ts).2.2 1 else .bad (hd ts).2.2 3
  | d + 1, ts => if begB (hd ts) = false then .bad (hd ts).2.2 1 else
      if (hd ts).1 = 1 then (argsF (termF d) ts.tail).then fun l r => .good (.mk (hd ts).2.1 l) r else .good (.mk (hd ts).2.1 []) ts.tail
def atomF (ts : List GTok) : Out Tm := if atomB (hd ts) = true then termF 4 ts else .bad (hd ts).2.2 1
abbrev Lt := Bool × Tm
def litF (ts : List GTok) : Out Lt :=
  if isB (hd ts) sNot = true then (atomF ts.tail).then fun t r => .good (true, t) r else (atomF ts).then fun t r => .good (false, t) r
def litsF : Nat → List Lt → List GTok → Out (List Lt)
  | 0, _, _ => .bad 0 0
  | n + 1, l, ts => if isB (hd ts) sAnd = true then
      (if (decide (l.length = 8) && (atomB (hd ts.tail) || isB (hd ts.tail) sNot)) = true then .bad (hd ts.tail).2.2 2 else (litF ts.tail).then fun x r => litsF n (l ++ [x]) r)
    else .good l ts
def bodyF (ts : List GTok) : Out (List Lt) := (litF ts).then fun x r => litsF 8 [x] r
def expF (s : ByteArray) (ts : List GTok) : Out Unit := if isB (hd ts) s = true then .good () ts.tail else .bad (hd ts).2.2 1
abbrev Rl := Tm × List Lt
def ruleF (ts : List GTok) : Out Rl :=
  (atomF ts).then fun h r => if isB (hd r) sIf = true then (bodyF r.tail).then fun b r2 => (expF sDot r2).then fun _ r3 => .good (h, b) r3 else (expF sDot r).then fun _ r3 => .good (h, []) r3
def descF : Nat → List Rl → List GTok → Out (List Rl)
  | 0, _, _ => .bad 0 0
  | n + 1, l, ts => if (hd ts).1 = 0 then .good l ts else
      if (decide (l.length = 128) && atomB (hd ts)) = true then .bad (hd ts).2.2 2 else (ruleF ts).then fun x r => descF n (l ++ [x]) r
def tmsF : Nat → List Tm → List GTok → Out (List Tm)
  | 0, _, _ => .bad 0 0
  | n + 1, l, ts => if isB (hd ts) sComma = true then (termF 4 ts.tail).then fun t r => tmsF n (l ++ [t]) r else .good l ts
def termsF (ts : List GTok) : Out (List Tm) :=
  if (hd ts).1 = 0 then .good [] ts else (termF 4 ts).then fun t r => tmsF (r.length + 1) [t] r
/-- The tokens end with the one of kind 0, which has no text. -/
def Wf (ts : List GTok) : Prop := ∃ (xs : List GTok) (n : Int), ts = xs ++ [(0, ⟨#[]⟩, n)]
theorem Wf.ne {ts : List GTok} (h : Wf ts) : 0 < ts.length := by obtain ⟨xs, n, rfl⟩ := h; simp
theorem Wf.tail {ts : List GTok} (h : Wf ts) (h1 : (hd ts).1 ≠ 0 ∨ (hd ts).2.1 ≠ ⟨#[]⟩) : Wf ts.tail ∧ 2 ≤ ts.length := by
  obtain ⟨xs, n, rfl⟩ := h
  cases xs with
  | nil => rcases h1 with h | h <;> exact absurd rfl h
  | cons a r => exact ⟨⟨r, n, rfl⟩, by simp⟩
theorem begB_ne {t : GTok} (h : begB t = true) : t.1 ≠ 0 := by
  intro e; rw [begB, e] at h; simp at h
theorem atomB_ne {t : GTok} (h : atomB t = true) : t.1 ≠ 0 := by
  intro e; rw [atomB, e] at h; simp at h
theorem isB_ne {t : GTok} {s : ByteArray} (h : isB t s = true) (hs : s ≠ ⟨#[]⟩) : t.2.1 ≠ ⟨#[]⟩ := by
  intro e
  unfold isB at h
  rw [e, beq_iff_eq, ByteArray.toList_eq, ByteArray.toList_eq] at h
  exact hs (TermM.bytes_inj h.symm)
theorem hd_get {ts : List GTok} (h : 0 < ts.length) : ts[0]? = some (hd ts) := by cases ts with
  | nil => simp at h
  | cons a r => rfl
theorem termF_bad {d : Nat} {ts : List GTok} (h : begB (hd ts) = false) : termF d ts = .bad (hd ts).2.2 1 := by
  cases d <;> simp [termF, h]
end ParM
end Go.Proofs.YtdalepdpobcpaaaDoor
