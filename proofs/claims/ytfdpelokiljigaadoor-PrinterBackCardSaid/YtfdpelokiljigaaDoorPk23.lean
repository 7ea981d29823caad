/- Texts laid together: RefB; RefC0. Their own heads stand before each. -/
import Derived.Test.YtfdpelokiljigaaDoorPk22
import Derived.Test.YtfdpelokiljigaaDoorPk9
/- The reference's reader: skip; what a method that reads a term leaves. No conditions but a reader in memory. -/
namespace Go.Proofs.YtfdpelokiljigaaDoor
open Go Go.RowKit
namespace RefB
open Kit LexM TermM TermI TermU LexE LexF LexG LexP LexQ ParM ParA ParB ParC ParV RefA
set_option maxRecDepth 100000 in
set_option maxHeartbeats 1600000 in
theorem skip_yes (w : World) (r : Nat) (ts : List GTok) (a : Int) (s : ByteArray) (hs : sevenB s) (hne : s ≠ ⟨#[]⟩) (h : RR w r ts a 0) (hb : isB (hd ts) s = true) :
    Calls Tryd.prog 83 #[.pointer (some ⟨r, 0, none⟩), .string s] w fun e w' => e = .returned (.tuple #[]) ∧ RR w' r ts.tail a 0 ∧ Ch r w w' := by
  have C := Lib.hid (is_yes w r ts a s hs h hb)
  have HR := Lib.hid h
  have HN := Lib.hid (isB_ne hb hne)
  clear h hb hs hne
  go_enter Tryd.func83, Tryd.ntmps83
  go_wp2_with fail
  refine C.out.mono ?_
  rintro e w1 ⟨rfl, k⟩
  have R1 := Lib.hid (HR.out.below k)
  have C1 := Lib.hid (Ch.of (r := r) k)
  clear k C HR
  obtain ⟨g, o, c, n, i, i1, i2, i3, i4, i5, x1, x2, x3, x4, f1, f2, f3, _⟩ := R1.out.open
  have hi1 : (i : Int) < 20000 := by omega
  have hi0 : 0 ≤ (i : Int) := by omega
  go_wp2_with fail
  go_end0
  exact ⟨rfl, R1.out.pass (Or.inr HN.out) x2, C1.out.put (Or.inl rfl) _⟩
set_option maxRecDepth 100000 in
set_option maxHeartbeats 1600000 in
theorem skip_no (w : World) (r : Nat) (ts : List GTok) (a : Int) (s : ByteArray) (h : RR w r ts a 0) (hb : isB (hd ts) s = false) :
    Calls Tryd.prog 83 #[.pointer (some ⟨r, 0, none⟩), .string s] w fun e w' => e = .returned (.tuple #[]) ∧ RR w' r ts (hd ts).2.2 1 ∧ Ch r w w' := by
  have C := Lib.hid (is_no w r ts a s h hb)
  have F := Lib.hid (fun w1 (k : Below w.heap.size w w1) => fail_ok w1 r ts a 1 (h.below k))
  clear h hb
  go_enter Tryd.func83, Tryd.ntmps83
  go_wp2_with fail
  refine C.out.mono ?_
  rintro e w1 ⟨rfl, k⟩
  have F1 := Lib.hid (F.out w1 k)
  have C1 := Lib.hid (Ch.of (r := r) k)
  clear k C F
  go_wp2_with fail
  refine F1.out.mono ?_
  rintro e w2 ⟨rfl, k1, k2⟩
  have R2 := Lib.hid k1
  have C2 := Lib.hid (C1.out.trans k2)
  clear k1 k2 F1
  go_wp2_with fail
  go_returns
  exact ⟨rfl, R2.out, C2.out⟩
set_option maxRecDepth 100000 in
set_option maxHeartbeats 1600000 in
theorem skip_err (w : World) (r : Nat) (ts : List GTok) (a er : Int) (s : ByteArray) (h : RR w r ts a er) (her : er ≠ 0) :
    Calls Tryd.prog 83 #[.pointer (some ⟨r, 0, none⟩), .string s] w fun e w' => e = .returned (.tuple #[]) ∧ Below w.heap.size w w' := by
  have C := Lib.hid (is_err w r ts a er s h her)
  have F := Lib.hid (fun w1 (k : Below w.heap.size w w1) => fail_err w1 r ts a er 1 (h.below k) her)
  clear h her
  go_enter Tryd.func83, Tryd.ntmps83
  go_wp2_with fail
  refine C.out.mono ?_
  rintro e w1 ⟨rfl, k⟩
  have F1 := Lib.hid (F.out w1 k)
  have C1 := Lib.hid k
  clear k C F
  go_wp2_with fail
  refine F1.out.mono ?_
  rintro e w2 ⟨rfl, rfl⟩
  clear F1
  go_wp2_with fail
  go_returns
  exact ⟨rfl, C1.out⟩
/-- What a method that reads a term leaves: the term, or the error in the reader. -/
def TmO (r : Nat) (w : World) (o : Out Tm) (e : Ending) (w' : World) : Prop :=
  (∃ t ts p c, o = .good t ts ∧ e = .returned (.agg #[.string t.nm, .slice p t.args.length c]) ∧ SlIn (fun b => w.heap.size ≤ b ∧ b < w'.heap.size) w' t.args (.slice p t.args.length c) ∧ t.nm.size ≤ maxLen ∧ RR w' r ts 0 0 ∧ Ch r w w') ∨
  (∃ a er nm p m c ts, o = .bad a er ∧ e = .returned (.agg #[.string nm, .slice p m c]) ∧ RR w' r ts a er ∧ er ≠ 0 ∧ Ch r w w')
/-- The arguments from an open bracket or a comma on. -/
def goF (f : List GTok → Out Tm) (l : List Tm) (ts : List GTok) : Out (List Tm) :=
  if (decide (l.length = 4) && begB (hd ts)) = true then .bad (hd ts).2.2 5 else (f ts).then fun t r => moreF f (4 - l.length) (l ++ [t]) r
theorem args_go (f : List GTok → Out Tm) (ts : List GTok) (h : isB (hd ts) sOpen = true) : argsF f ts = goF f [] ts.tail := by
  unfold argsF goF
  rw [if_pos h, if_neg (by simp)]
  rfl
theorem more_go (f : List GTok → Out Tm) (l : List Tm) (ts : List GTok) (hl : 1 ≤ l.length) (h4 : l.length ≤ 4) :
    moreF f (5 - l.length) l ts = if isB (hd ts) sComma = true then goF f l ts.tail else if isB (hd ts) sShut = true then .good l ts.tail else .bad (hd ts).2.2 1 := by
  obtain ⟨m, hm⟩ : ∃ m, 5 - l.length = m + 1 := ⟨4 - l.length, by omega⟩
  rw [hm, moreF]
  unfold goF
  rw [show 4 - l.length = m by omega]
end RefB
end Go.Proofs.YtfdpelokiljigaaDoor
/- The reference's reader: what stands behind one more argument. No conditions. -/
namespace Go.Proofs.YtfdpelokiljigaaDoor
open Go Go.RowKit
namespace RefC0
open Kit LexM TermM TermI TermU LexE LexF LexG LexP LexQ ParM ParA ParB ParC ParD ParV RefA RefB
theorem RR.grown {w w' : World} {r : Nat} {ts : List GTok} {a e : Int} {row : Option Nat} (h : RR w r ts a e) (hg : w.grownBy w' row) (hr : ∀ k, row = some k → r < k) : RR w' r ts a e := by
  obtain ⟨h1, h2, g, o, c, n, i, h3, h4, h5, h6, h7, h8, h9⟩ := h
  have hl := h7.lt
  obtain ⟨t, h7⟩ := h7
  have hc : ∀ off, w'.cell? ⟨g, off, none⟩ = w.cell? ⟨g, off, none⟩ := fun off => World.cell?_of_block (w := w) (a := ⟨g, off, none⟩) (hg.block g h9.1 (fun e => by have := hr g e.symm; omega))
  exact ⟨h1, h2, g, o, c, n, i, h3, h4, h5, h6, ⟨t, (hg.block r hl (fun e => by have := hr r e.symm; omega)).trans h7⟩, h8, Nat.lt_of_lt_of_le h9.1 hg.size, fun j u hj => ⟨(hc _).trans (h9.2 j u hj).1, (hc _).trans (h9.2 j u hj).2.1, (hc _).trans (h9.2 j u hj).2.2⟩⟩
theorem RR.far {w : World} {r : Nat} {ts : List GTok} {a e : Int} (h : RR w r ts a e) {p : Addr} (hp : r < p.block) (u : Value) : RR (w.setCell p u) r ts a e := by
  obtain ⟨h1, h2, g, o, c, n, i, h3, h4, h5, h6, h7, h8, h9⟩ := h
  have hc : ∀ off, (w.setCell p u).cell? ⟨g, off, none⟩ = w.cell? ⟨g, off, none⟩ := fun off => World.cell?_of_block (w := w) (a := ⟨g, off, none⟩) (Below.heap_setCell _ _ _ _ (by show g ≠ p.block; omega))
  exact ⟨h1, h2, g, o, c, n, i, h3, h4, h5, h6, h7.far (by omega) u, h8, ⟨by simpa [World.setCell] using h9.1, fun j t hj => ⟨(hc _).trans (h9.2 j t hj).1, (hc _).trans (h9.2 j t hj).2.1, (hc _).trans (h9.2 j t hj).2.2⟩⟩⟩
theorem RR.alloc {w : World} {r : Nat} {ts : List GTok} {a e : Int} (h : RR w r ts a e) (o : Obj) : RR (w.alloc o) r ts a e := h.below (below_alloc w o)
theorem Has.grown {w w' : World} {g : Nat} {cs : Array Value} {row : Option Nat} (h : Has w g cs) (hg : w.grownBy w' row) (hr : row ≠ some g) : Has w' g cs := by
  have hl := h.lt
  obtain ⟨t, h⟩ := h
  exact ⟨t, (hg.block g hl (fun e => hr e.symm)).trans h⟩
/-- What a call that reads a term answers, good or bad. -/
def Fct (r : Nat) (w w2 : World) (o : Out Tm) (nm : ByteArray) (p : Option Addr) (m c : Nat) : Prop :=
  (∃ t ts, o = .good t ts ∧ nm = t.nm ∧ m = t.args.length ∧ SlIn (fun b => w.heap.size ≤ b ∧ b < w2.heap.size) w2 t.args (.slice p m c) ∧ t.nm.size ≤ maxLen ∧ RR w2 r ts 0 0) ∨
  (∃ a er ts, o = .bad a er ∧ er ≠ 0 ∧ RR w2 r ts a er)
theorem tmO_uni {r : Nat} {w w2 : World} {o : Out Tm} {e : Ending} (h : TmO r w o e w2) : ∃ nm p m c, e = .returned (.agg #[.string nm, .slice p m c]) ∧ Ch r w w2 ∧ Fct r w w2 o nm p m c := by
  rcases h with ⟨t, ts, p, c, h1, h2, h3, h4, h5, h6⟩ | ⟨a, er, nm, p, m, c, ts, h1, h2, h3, h4, h5⟩
  · exact ⟨_, _, _, _, h2, h6, Or.inl ⟨t, ts, h1, rfl, rfl, h3, h4, h5⟩⟩
  · exact ⟨_, _, _, _, h2, h5, Or.inr ⟨a, er, ts, h1, h4, h3⟩⟩
def Aft (r : Nat) (w : World) (tx : ByteArray) (o : Out Tm) (M : List (Tm × Value)) (wx : World) : Prop :=
  Ch r w wx ∧ Has wx w.heap.size #[.string ⟨#[]⟩, .slice none 0 0] ∧
  ((∃ t ts v u, o = .good t ts ∧ Own (w.heap.size + 2) wx (M ++ [(t, u)]) v ∧ Has wx (w.heap.size + 1) #[.string tx, v] ∧ RR wx r ts 0 0) ∨
   (∃ a er p m c ts, o = .bad a er ∧ er ≠ 0 ∧ Has wx (w.heap.size + 1) #[.string tx, .slice p m c] ∧ RR wx r ts a er))
theorem aft_of {r : Nat} {w wr w2 w4 : World} {tx : ByteArray} {o : Out Tm} {M : List (Tm × Value)} {v : Value} {nm : ByteArray} {p : Option Addr} {m c g cap : Nat} {ob : Obj}
    (hr : r < w.heap.size) (hC0 : Ch r w wr) (hZ : Has wr w.heap.size #[.string ⟨#[]⟩, .slice none 0 0]) (hT : Has wr (w.heap.size + 1) #[.string tx, v]) (hO : Own (w.heap.size + 2) wr M v)
    (hC : Ch r wr w2) (hF : Fct r wr w2 o nm p m c)
    (hown : w4.ownsRow (w.heap.size + 2) 24 2 (.slice (some ⟨g, 0, none⟩) (M.length + 1) cap) (M.length + 1) (flatL M ++ [.string nm, .slice p m c])) (hgrow : (w2.alloc ob).grownBy w4 v.ownBlock) (hat : v.ownBlock = some g ∨ g = w2.heap.size + 1) :
    Aft r w tx o M (w4.setCell ⟨w.heap.size + 1, 1, none⟩ (.slice (some ⟨g, 0, none⟩) (M.length + 1) cap)) := by
  have hvb : ∀ k, v.ownBlock = some k → w.heap.size + 2 ≤ k ∧ k < wr.heap.size := fun k hk => hO.1.lt k hk
  have hTl := hT.lt
  have fr : ∀ {gg : Nat} {cs : Array Value}, Has wr gg cs → gg ≠ r → gg < w.heap.size + 2 → Has w4 gg cs := fun {gg cs} hh hne hlt => by
    refine Has.grown ((hC.has hh hne).alloc ob) hgrow (fun e => ?_)
    have := (hvb gg e).1
    omega
  have hRR : ∀ {ts : List GTok} {a e : Int}, RR w2 r ts a e → RR (w4.setCell ⟨w.heap.size + 1, 1, none⟩ (.slice (some ⟨g, 0, none⟩) (M.length + 1) cap)) r ts a e := fun {ts a e} h =>
    RR.far (RR.grown (RR.alloc h ob) hgrow (fun k hk => by have := (hvb k hk).1; omega)) (by show r < w.heap.size + 1; omega) _
  have hT4 := (fr hT (by omega) (by omega)).set 1 (.slice (some ⟨g, 0, none⟩) (M.length + 1) cap)
  refine ⟨?_, ?_, ?_⟩
  · exact (((hC0.trans hC).alloc ob).grown hgrow (fun k hk => by have := (hvb k hk).1; omega)).put (Or.inr (by show w.heap.size ≤ w.heap.size + 1; omega)) _
  · exact (fr hZ (by omega) (by omega)).far (by show w.heap.size ≠ w.heap.size + 1; omega) _
  · rcases hF with ⟨t, ts, h1, h2, h3, h4, h5, h6⟩ | ⟨a, er, ts, h1, h2, h3⟩
    · subst h2 h3
      refine Or.inl ⟨t, ts, _, .slice p t.args.length c, h1, ?_, hT4, hRR h6⟩
      exact ((own_ch hO hC (by omega)).add (lo := wr.heap.size) h4 h5 (by omega) (fun k hk => (hvb k hk).2) hown hgrow hat).far (by show w.heap.size + 1 < w.heap.size + 2; omega) _
    · exact Or.inr ⟨a, er, _, _, _, ts, h1, h2, hT4, hRR h3⟩
end RefC0
end Go.Proofs.YtfdpelokiljigaaDoor
