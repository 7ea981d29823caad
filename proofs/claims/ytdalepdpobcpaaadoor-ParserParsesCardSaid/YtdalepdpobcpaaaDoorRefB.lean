/- The reference's reader: skip; what a method that reads a term leaves. No conditions but a reader in memory. -/
import Derived.Test.YtdalepdpobcpaaaDoorRefA
import Derived.Test.YtdalepdpobcpaaaDoorParC
namespace Go.Proofs.YtdalepdpobcpaaaDoor
open Go Go.RowKit
namespace RefB
open Kit LexM TermM TermI TermU LexE LexF LexG LexP LexQ ParM ParA ParB ParC ParV RefA
set_option maxRecDepth 100000 in
set_option maxHeartbeats 1600000 in
theorem skip_yes (w : World) (r : Nat) (ts : List GTok) (a : Int) (s : ByteArray) (hs : sevenB s) (hne : s ≠ ⟨#[]⟩) (h : RR w r ts a 0) (hb : isB (hd ts) s = true) :
    Calls Tryd.prog 52 #[.pointer (some ⟨r, 0, none⟩), .string s] w fun e w' => e = .returned (.tuple #[]) ∧ RR w' r ts.tail a 0 ∧ Ch r w w' := by
  have C := Lib.hid (is_yes w r ts a s hs h hb)
  have HR := Lib.hid h
  have HN := Lib.hid (isB_ne hb hne)
  clear h hb hs hne
  go_enter Tryd.func52, Tryd.ntmps52
  go_wp2_with fail
  refine C.out.mono ?_
  rintro e w1 ⟨rfl, k⟩
  have R1 := Lib.hid (HR.out.below k)
  have C1 := Lib.hid (Ch.of (r := r) k)
  clear k C HR
  obtain ⟨g, o, c, n, i, i1, i2, i3, i4, i5, x1, x2, x3, x4, f1, f2, f3, _⟩ := R1.out.open
  have hi1 : (i : Int) < 20000 := by omega
  have hi0 : 0 ≤ (i : Int) := by omega
  go_wp2_with fail
  go_end0
  exact ⟨rfl, R1.out.pass (Or.inr HN.out) x2, C1.out.put (Or.inl rfl) _⟩
set_option maxRecDepth 100000 in
set_option maxHeartbeats 1600000 in
theorem skip_no (w : World) (r : Nat) (ts : List GTok) (a : Int) (s : ByteArray) (h : RR w r ts a 0) (hb : isB (hd ts) s = false) :
    Calls Tryd.prog 52 #[.pointer (some ⟨r, 0, none⟩), .string s] w fun e w' => e = .returned (.tuple #[]) ∧ RR w' r ts (hd ts).2.2 1 ∧ Ch r w w' := by
  have C := Lib.hid (is_no w r ts a s h hb)
  have F := Lib.hid (fun w1 (k : Below w.heap.size w w1) => fail_ok w1 r ts a 1 (h.below k))
  clear h hb
  go_enter Tryd.func52, Tryd.ntmps52
  go_wp2_with fail
  refine C.out.mono ?_
  rintro e w1 ⟨rfl, k⟩
  have F1 := Lib.hid (F.out w1 k)
  have C1 := Lib.hid (Ch.of (r := r) k)
  clear k C F
  go_wp2_with fail
  refine F1.out.mono ?_
  rintro e w2 ⟨rfl, k1, k2⟩
  have R2 := Lib.hid k1
  have C2 := Lib.hid (C1.out.trans k2)
  clear k1 k2 F1
  go_wp2_with fail
  go_returns
  exact ⟨rfl, R2.out, C2.out⟩
set_option maxRecDepth 100000 in
set_option maxHeartbeats 1600000 in
theorem skip_err (w : World) (r : Nat) (ts : List GTok) (a er : Int) (s : ByteArray) (h : RR w r ts a er) (her : er ≠ 0) :
    Calls Tryd.prog 52 #[.pointer (some ⟨r, 0, none⟩), .string s] w fun e w' => e = .returned (.tuple #[]) ∧ Below w.heap.size w w' := by
  have C := Lib.hid (is_err w r ts a er s h her)
  have F := Lib.hid (fun w1 (k : Below w.heap.size w w1) => fail_err w1 r ts a er 1 (h.below k) her)
  clear h her
  go_enter Tryd.func52, Tryd.ntmps52
  go_wp2_with fail
  refine C.out.mono ?_
  rintro e w1 ⟨rfl, k⟩
  have F1 := Lib.hid (F.out w1 k)
  have C1 := Lib.hid k
  clear k C F
  go_wp2_with fail
  refine F1.out.mono ?_
  rintro e w2 ⟨rfl, rfl⟩
  clear F1
  go_wp2_with fail
  go_returns
  exact ⟨rfl, C1.out⟩
/-- What a method that reads a term leaves: the term, or the error in the reader. -/
def TmO (r : Nat) (w : World) (o : Out Tm) (e : Ending) (w' : World) : Prop :=
  (∃ t ts p c, o = .good t ts ∧ e = .returned (.agg #[.string t.nm, .slice p t.args.length c]) ∧ SlIn (fun b => w.heap.size ≤ b ∧ b < w'.heap.size) w' t.args (.slice p t.args.length c) ∧ t.nm.size ≤ maxLen ∧ RR w' r ts 0 0 ∧ Ch r w w') ∨
  (∃ a er nm p m c ts, o = .bad a er ∧ e = .returned (.agg #[.string nm, .slice p m c]) ∧ RR w' r ts a er ∧ er ≠ 0 ∧ Ch r w w')
/-- The arguments from an open bracket or a comma on. -/
def goF (f : List GTok → Out Tm) (l : List Tm) (ts : List GTok) : Out (List Tm) :=
  if (decide (l.length = 4) && begB (hd ts)) = true then .bad (hd ts).2.2 5 else (f ts).then fun t r => moreF f (4 - l.length) (l ++ [t]) r
theorem args_go (f : List GTok → Out Tm) (ts : List GTok) (h : isB (hd ts) sOpen = true) : argsF f ts = goF f [] ts.tail := by
  unfold argsF goF
  rw [if_pos h, if_neg (by simp)]
  rfl
theorem more_go (f : List GTok → Out Tm) (l : List Tm) (ts : List GTok) (hl : 1 ≤ l.length) (h4 : l.length ≤ 4) :
    moreF f (5 - l.length) l ts = if isB (hd ts) sComma = true then goF f l ts.tail else if isB (hd ts) sShut = true then .good l ts.tail else .bad (hd ts).2.2 1 := by
  obtain ⟨m, hm⟩ : ∃ m, 5 - l.length = m + 1 := ⟨4 - l.length, by omega⟩
  rw [hm, moreF]
  unfold goF
  rw [show 4 - l.length = m by omega]
end RefB
end Go.Proofs.YtdalepdpobcpaaaDoor
