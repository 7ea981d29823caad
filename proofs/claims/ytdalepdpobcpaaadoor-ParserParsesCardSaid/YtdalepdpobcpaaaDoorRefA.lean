/- The reference's reader of tokens in memory; is, fail, skip, begins. No conditions but a reader in memory. -/
import Derived.Test.YtdalepdpobcpaaaDoorParN
import Derived.Test.YtdalepdpobcpaaaDoorParA
import Derived.Test.YtdalepdpobcpaaaDoorLexQ
import Derived.Test.YtdalepdpobcpaaaDoorParLn
import Derived.StillTailTactics
import Derived.Deep.QuietTactic
import Derived.BigQuiet
import Derived.Deep.RegionHeld3
import Derived.Deep.DeepCutAuto
namespace Go.Proofs.YtdalepdpobcpaaaDoor
open Go Go.RowKit
namespace RefA
open Kit LexM TermM TermI TermU LexE LexF LexG LexP LexQ ParM ParA ParV
/-- A token whose text is a symbol or a reserved word is of that kind. -/
def Sy (t : GTok) : Prop := (t.1 = 4 ∨ t.1 = 5) ∨ ∀ s, s = sOpen ∨ s = sShut ∨ s = sComma ∨ s = sDot ∨ s = sIf ∨ s = sAnd ∨ s = sNot → isB t s = false
/-- The reference's reader at block r has these tokens left. -/
def RR (w : World) (r : Nat) (ts : List GTok) (at_ er : Int) : Prop :=
  Wf ts ∧ (∀ t ∈ ts, t.2.1.size ≤ maxLen ∧ Sy t) ∧ ∃ g o c n i, i + ts.length = n ∧ n ≤ 20000 ∧ n ≤ c ∧ c ≤ maxLen ∧ Has w r #[.slice (some ⟨g, o, none⟩) n c, .int .i64 (i : Nat), .int .i64 at_, .int .i64 er] ∧ g < r ∧ Toks w g (o + i * 3) ts
theorem has4 {w : World} {g : Nat} {a b c d : Value} (h : Has w g #[a, b, c, d]) : w.cell? ⟨g, 0, none⟩ = some a ∧ w.cell? ⟨g, 1, none⟩ = some b ∧ w.cell? ⟨g, 2, none⟩ = some c ∧ w.cell? ⟨g, 3, none⟩ = some d ∧ w.frozen? ⟨g, 1, none⟩ = false ∧ w.frozen? ⟨g, 2, none⟩ = false ∧ w.frozen? ⟨g, 3, none⟩ = false ∧ g < w.heap.size :=
  ⟨h.cell 0, h.cell 1, h.cell 2, h.cell 3, h.free 1, h.free 2, h.free 3, h.lt⟩
theorem RR.lt {w : World} {r : Nat} {ts : List GTok} {a e : Int} (h : RR w r ts a e) : r < w.heap.size := by
  obtain ⟨_, _, _, _, _, _, _, _, _, _, _, h, _⟩ := h; exact h.lt
theorem RR.below {w w' : World} {r : Nat} {ts : List GTok} {a e : Int} (h : RR w r ts a e) (k : Below w.heap.size w w') : RR w' r ts a e := by
  obtain ⟨h1, h2, g, o, c, n, i, h3, h4, h5, h6, h7, h8, h9⟩ := h
  exact ⟨h1, h2, g, o, c, n, i, h3, h4, h5, h6, h7.step0 k, h8, h9.below k h9.1⟩
theorem RR.nm {w : World} {r : Nat} {ts : List GTok} {a e : Int} (h : RR w r ts a e) : (hd ts).2.1.size ≤ maxLen := (h.2.1 _ (List.mem_of_getElem? (hd_get h.1.ne))).1
theorem RR.sy {w : World} {r : Nat} {ts : List GTok} {a e : Int} (h : RR w r ts a e) : Sy (hd ts) := (h.2.1 _ (List.mem_of_getElem? (hd_get h.1.ne))).2
theorem RR.wf {w : World} {r : Nat} {ts : List GTok} {a e : Int} (h : RR w r ts a e) : Wf ts := h.1
/-- What a walk at the reader knows of its cells. -/
theorem RR.open {w : World} {r : Nat} {ts : List GTok} {a e : Int} (h : RR w r ts a e) : ∃ g o c n i, (i : Nat) < n ∧ n ≤ 20000 ∧ r < w.heap.size ∧ g < r ∧ g < w.heap.size ∧ w.cell? ⟨r, 0, none⟩ = some (.slice (some ⟨g, o, none⟩) n c) ∧ w.cell? ⟨r, 1, none⟩ = some (.int .i64 (i : Nat)) ∧ w.cell? ⟨r, 2, none⟩ = some (.int .i64 a) ∧ w.cell? ⟨r, 3, none⟩ = some (.int .i64 e) ∧
    w.frozen? ⟨r, 1, none⟩ = false ∧ w.frozen? ⟨r, 2, none⟩ = false ∧ w.frozen? ⟨r, 3, none⟩ = false ∧ w.cell? ⟨g, o + i * 3, none⟩ = some (.int .i64 (hd ts).1) ∧ w.cell? ⟨g, o + i * 3 + 1, none⟩ = some (.string (hd ts).2.1) ∧ w.cell? ⟨g, o + i * 3 + 2, none⟩ = some (.int .i64 (hd ts).2.2) ∧ w.cell? ⟨g, o + i * 3 + 1 + 1, none⟩ = some (.int .i64 (hd ts).2.2) := by
  obtain ⟨h1, h2, g, o, c, n, i, h3, h4, h5, h6, h7, h8, h9⟩ := h
  obtain ⟨x1, x2, x3, x4, x5, x6, x7, x8⟩ := has4 h7
  obtain ⟨y1, y2, y3⟩ := h9.2 0 _ (hd_get h1.ne)
  rw [Nat.zero_mul, Nat.add_zero] at y1 y2 y3
  have := h1.ne
  exact ⟨g, o, c, n, i, by omega, h4, x8, h8, h9.1, x1, x2, x3, x4, x5, x6, x7, y1, y2, y3, y3⟩
/-- An error is recorded. -/
theorem RR.fail {w : World} {r : Nat} {ts : List GTok} {a e : Int} (h : RR w r ts a e) (a' e' : Int) : RR ((w.setCell ⟨r, 2, none⟩ (.int .i64 a')).setCell ⟨r, 3, none⟩ (.int .i64 e')) r ts a' e' := by
  obtain ⟨h1, h2, g, o, c, n, i, h3, h4, h5, h6, h7, h8, h9⟩ := h
  refine ⟨h1, h2, g, o, c, n, i, h3, h4, h5, h6, (h7.set 2 (.int .i64 a')).set 3 (.int .i64 e'), h8, ⟨by simpa [World.setCell] using h9.1, fun j t hj => ?_⟩⟩
  have hc : ∀ off, ((w.setCell ⟨r, 2, none⟩ (.int .i64 a')).setCell ⟨r, 3, none⟩ (.int .i64 e')).cell? ⟨g, off, none⟩ = w.cell? ⟨g, off, none⟩ := fun off =>
    (World.cell?_of_block (w := w.setCell ⟨r, 2, none⟩ (.int .i64 a')) (a := ⟨g, off, none⟩) (Below.heap_setCell _ _ _ _ (by show g ≠ r; omega))).trans (World.cell?_of_block (w := w) (a := ⟨g, off, none⟩) (Below.heap_setCell _ _ _ _ (by show g ≠ r; omega)))
  exact ⟨(hc _).trans (h9.2 j t hj).1, (hc _).trans (h9.2 j t hj).2.1, (hc _).trans (h9.2 j t hj).2.2⟩
/-- A token is passed. -/
theorem RR.pass {w : World} {r : Nat} {ts : List GTok} {a e : Int} {i : Nat} (h : RR w r ts a e) (h0 : (hd ts).1 ≠ 0 ∨ (hd ts).2.1 ≠ ⟨#[]⟩) (hi : w.cell? ⟨r, 1, none⟩ = some (.int .i64 i)) : RR (w.setCell ⟨r, 1, none⟩ (.int .i64 ((i : Int) + 1))) r ts.tail a e := by
  obtain ⟨h1, h2, g, o, c, n, i', h3, h4, h5, h6, h7, h8, h9⟩ := h
  have hii : i' = i := by
    have hc := h7.cell 1
    rw [hi] at hc
    simp at hc
    omega
  subst hii
  obtain ⟨k1, k2⟩ := h1.tail h0
  refine ⟨k1, fun t ht => h2 t (List.mem_of_mem_tail ht), g, o, c, n, i' + 1, by rw [List.length_tail]; omega, h4, h5, h6, ?_, h8, ⟨by simpa [World.setCell] using h9.1, fun j t hj => ?_⟩⟩
  · have := h7.set 1 (.int .i64 ((i' : Int) + 1))
    exact this
  · have hc : ∀ off, (w.setCell ⟨r, 1, none⟩ (.int .i64 ((i' : Int) + 1))).cell? ⟨g, off, none⟩ = w.cell? ⟨g, off, none⟩ := fun off =>
      World.cell?_of_block (w := w) (a := ⟨g, off, none⟩) (Below.heap_setCell _ _ _ _ (by show g ≠ r; omega))
    have hj' : ts[j + 1]? = some t := by rw [← List.getElem?_tail]; exact hj
    obtain ⟨z1, z2, z3⟩ := h9.2 (j + 1) t hj'
    have e : o + (i' + 1) * 3 + j * 3 = o + i' * 3 + (j + 1) * 3 := by omega
    rw [e]
    exact ⟨(hc _).trans z1, (hc _).trans z2, (hc _).trans z3⟩
set_option maxRecDepth 100000 in
set_option maxHeartbeats 800000 in
theorem begins_any (w : World) (r : Nat) (ts : List GTok) (a er : Int) (h : RR w r ts a er) :
    Calls Tryd.prog 62 #[.pointer (some ⟨r, 0, none⟩)] w fun e w' => e = .returned (.bool (begB (hd ts))) ∧ Below w.heap.size w w' := by
  obtain ⟨g, o, c, n, i, i1, i2, i3, i4, i5, x1, x2, x3, x4, f1, f2, f3, y1, y2, y3, y4⟩ := h.open
  have hi1 : (i : Int) < (n : Int) := by omega
  have hi0 : 0 ≤ (i : Int) := by omega
  have HB : Hid (begB (hd ts) = ((hd ts).1 == 1 || ((hd ts).1 == 2 || (hd ts).1 == 3))) := Lib.hid rfl
  generalize begB (hd ts) = R at *
  generalize (hd ts).1 = k at *
  generalize (hd ts).2.1 = tx at *
  generalize (hd ts).2.2 = ta at *
  clear h
  obtain ⟨b1, hb1⟩ : ∃ b, (k == 1) = b := ⟨_, rfl⟩
  obtain ⟨b2, hb2⟩ : ∃ b, (k == 2) = b := ⟨_, rfl⟩
  obtain ⟨b3, hb3⟩ : ∃ b, (k == 3) = b := ⟨_, rfl⟩
  rw [hb1, hb2, hb3] at HB
  cases b1 <;> cases b2 <;> cases b3
  all_goals
    go_enter Tryd.func62, Tryd.ntmps62
    go_wp2_with fail
    go_quiet (fail)
    go_wp2_with fail
    go_ret
    exact ⟨ret_bool HB.out.symm, below_drewN (Below.refl _ _) _⟩
def sevenB (s : ByteArray) : Prop := s = sOpen ∨ s = sShut ∨ s = sComma ∨ s = sDot ∨ s = sIf ∨ s = sAnd ∨ s = sNot
set_option maxRecDepth 100000 in
set_option maxHeartbeats 1600000 in
theorem is_yes (w : World) (r : Nat) (ts : List GTok) (a : Int) (s : ByteArray) (hs : sevenB s) (h : RR w r ts a 0) (hb : isB (hd ts) s = true) :
    Calls Tryd.prog 41 #[.pointer (some ⟨r, 0, none⟩), .string s] w fun e w' => e = .returned (.bool true) ∧ Below w.heap.size w w' := by
  have hk : (hd ts).1 = 4 ∨ (hd ts).1 = 5 := by
    rcases h.sy with hk | hk
    · exact hk
    · rw [hk s hs] at hb; cases hb
  obtain ⟨g, o, c, n, i, i1, i2, i3, i4, i5, x1, x2, x3, x4, f1, f2, f3, y1, y2, y3, y4⟩ := h.open
  have hi1 : (i : Int) < (n : Int) := by omega
  have hi0 : 0 ≤ (i : Int) := by omega
  unfold isB at hb
  have hb2 : ((hd ts).2.1.toList == s.toList) = true := hb
  clear h hb hs
  generalize (hd ts).1 = k at *
  generalize (hd ts).2.1 = tx at *
  generalize (hd ts).2.2 = ta at *
  have HH := Lib.hid hb2
  clear hb2
  rcases hk with rfl | rfl
  · have hb2 := HH.out
    have Hb : Hid (∀ w', Below w.heap.size w w' → w'.cell? ⟨r, 0, none⟩ = some (.slice (some ⟨g, o, none⟩) n c) ∧ w'.cell? ⟨r, 1, none⟩ = some (.int .i64 (i : Nat)) ∧ w'.cell? ⟨g, o + i * 3, none⟩ = some (.int .i64 4) ∧ w'.cell? ⟨g, o + i * 3 + 1, none⟩ = some (.string tx) ∧ w'.cell? ⟨g, o + i * 3 + 1 + 1, none⟩ = some (.int .i64 ta) ∧ Hid (Below w.heap.size w w')) := Lib.hid (fun w' g' => ⟨(g'.cell (p := ⟨_, _, none⟩) i3).trans x1, (g'.cell (p := ⟨_, _, none⟩) i3).trans x2, (g'.cell (p := ⟨_, _, none⟩) i5).trans y1, (g'.cell (p := ⟨_, _, none⟩) i5).trans y2, (g'.cell (p := ⟨_, _, none⟩) i5).trans y4, Lib.hid g'⟩)
    go_enter Tryd.func41, Tryd.ntmps41
    go_upto_region 1 with fail
    go_cut [5] (fun s5 wx => s5 = .pointer (some ⟨w.heap.size, 0, none⟩) ∧ Hid (Has wx w.heap.size #[.int .i64 4, .string tx, .int .i64 ta]) ∧ Hid (Below w.heap.size w wx))
    case first =>
      have hs0 := Hb.out _ (Below.refl _ w).drew
      clear x1 x2 x3 x4 f1 f2 f3 y1 y2 y3 y4
      go_region_held3 (fun w' => w'.cell? ⟨r, 0, none⟩ = some (.slice (some ⟨g, o, none⟩) n c) ∧ w'.cell? ⟨r, 1, none⟩ = some (.int .i64 (i : Nat)) ∧ w'.cell? ⟨g, o + i * 3, none⟩ = some (.int .i64 4) ∧ w'.cell? ⟨g, o + i * 3 + 1, none⟩ = some (.string tx) ∧ w'.cell? ⟨g, o + i * 3 + 1 + 1, none⟩ = some (.int .i64 ta) ∧ Hid (Below w.heap.size w w'))
        (first | (with_reducible assumption) | (with_reducible exact ⟨‹_›, ‹_›, ‹_›, ‹_›, ‹_›, ‹_›⟩) | (with_reducible refine Hb.out _ ?_; repeat (first | (with_reducible exact Hid.out (by assumption)) | (with_reducible exact Below.refl _ _) | (with_reducible refine Below.drew ?_) | (with_reducible refine Below.alloc ?_ (Nat.le_refl _) _))))
        (fail)
      all_goals
        go_wp2_with fail
        go_meet
        exact ⟨rfl, Lib.hid (Has.new w _ _).drew, Lib.hid ((Below.refl _ w).alloc (Nat.le_refl _) _).drew⟩
    case rest =>
      obtain ⟨rfl, H5, B5⟩ := hcut
      have z0 := H5.out.cell 0
      have z1 := H5.out.cell 1
      have e3 := (B5.out.cell (p := ⟨r, 3, none⟩) i3).trans x4
      simp only [List.getElem?_toArray, List.getElem?_cons_zero, List.getElem?_cons_succ] at z0 z1
      clear x1 x2 x3 x4 f1 f2 f3 y1 y2 y3 y4 Hb
      go_wp2_with fail
      go_ret
      exact ⟨rfl, B5.out⟩
  · have hb2 := HH.out
    have Hb : Hid (∀ w', Below w.heap.size w w' → w'.cell? ⟨r, 0, none⟩ = some (.slice (some ⟨g, o, none⟩) n c) ∧ w'.cell? ⟨r, 1, none⟩ = some (.int .i64 (i : Nat)) ∧ w'.cell? ⟨g, o + i * 3, none⟩ = some (.int .i64 5) ∧ w'.cell? ⟨g, o + i * 3 + 1, none⟩ = some (.string tx) ∧ w'.cell? ⟨g, o + i * 3 + 1 + 1, none⟩ = some (.int .i64 ta) ∧ Hid (Below w.heap.size w w')) := Lib.hid (fun w' g' => ⟨(g'.cell (p := ⟨_, _, none⟩) i3).trans x1, (g'.cell (p := ⟨_, _, none⟩) i3).trans x2, (g'.cell (p := ⟨_, _, none⟩) i5).trans y1, (g'.cell (p := ⟨_, _, none⟩) i5).trans y2, (g'.cell (p := ⟨_, _, none⟩) i5).trans y4, Lib.hid g'⟩)
    go_enter Tryd.func41, Tryd.ntmps41
    go_upto_region 1 with fail
    go_cut [5] (fun s5 wx => s5 = .pointer (some ⟨w.heap.size, 0, none⟩) ∧ Hid (Has wx w.heap.size #[.int .i64 5, .string tx, .int .i64 ta]) ∧ Hid (Below w.heap.size w wx))
    case first =>
      have hs0 := Hb.out _ (Below.refl _ w).drew
      clear x1 x2 x3 x4 f1 f2 f3 y1 y2 y3 y4
      go_region_held3 (fun w' => w'.cell? ⟨r, 0, none⟩ = some (.slice (some ⟨g, o, none⟩) n c) ∧ w'.cell? ⟨r, 1, none⟩ = some (.int .i64 (i : Nat)) ∧ w'.cell? ⟨g, o + i * 3, none⟩ = some (.int .i64 5) ∧ w'.cell? ⟨g, o + i * 3 + 1, none⟩ = some (.string tx) ∧ w'.cell? ⟨g, o + i * 3 + 1 + 1, none⟩ = some (.int .i64 ta) ∧ Hid (Below w.heap.size w w'))
        (first | (with_reducible assumption) | (with_reducible exact ⟨‹_›, ‹_›, ‹_›, ‹_›, ‹_›, ‹_›⟩) | (with_reducible refine Hb.out _ ?_; repeat (first | (with_reducible exact Hid.out (by assumption)) | (with_reducible exact Below.refl _ _) | (with_reducible refine Below.drew ?_) | (with_reducible refine Below.alloc ?_ (Nat.le_refl _) _))))
        (fail)
      all_goals
        go_wp2_with fail
        go_meet
        exact ⟨rfl, Lib.hid (Has.new w _ _).drew, Lib.hid ((Below.refl _ w).alloc (Nat.le_refl _) _).drew⟩
    case rest =>
      obtain ⟨rfl, H5, B5⟩ := hcut
      have z0 := H5.out.cell 0
      have z1 := H5.out.cell 1
      have e3 := (B5.out.cell (p := ⟨r, 3, none⟩) i3).trans x4
      simp only [List.getElem?_toArray, List.getElem?_cons_zero, List.getElem?_cons_succ] at z0 z1
      clear x1 x2 x3 x4 f1 f2 f3 y1 y2 y3 y4 Hb
      go_wp2_with fail
      go_ret
      exact ⟨rfl, B5.out⟩
set_option maxRecDepth 100000 in
set_option maxHeartbeats 1600000 in
theorem is_no (w : World) (r : Nat) (ts : List GTok) (a : Int) (s : ByteArray) (h : RR w r ts a 0) (hb : isB (hd ts) s = false) :
    Calls Tryd.prog 41 #[.pointer (some ⟨r, 0, none⟩), .string s] w fun e w' => e = .returned (.bool false) ∧ Below w.heap.size w w' := by
  obtain ⟨g, o, c, n, i, i1, i2, i3, i4, i5, x1, x2, x3, x4, f1, f2, f3, y1, y2, y3, y4⟩ := h.open
  have hi1 : (i : Int) < (n : Int) := by omega
  have hi0 : 0 ≤ (i : Int) := by omega
  unfold isB at hb
  have hb2 : ((hd ts).2.1.toList == s.toList) = false := hb
  clear h hb
  generalize (hd ts).1 = k at *
  generalize (hd ts).2.1 = tx at *
  generalize (hd ts).2.2 = ta at *
  obtain ⟨b1, hb1⟩ : ∃ b, (k == 4) = b := ⟨_, rfl⟩
  obtain ⟨b3, hb3⟩ : ∃ b, (k == 5) = b := ⟨_, rfl⟩
  cases b1 <;> cases b3
  all_goals
    have Hb : Hid (∀ w', Below w.heap.size w w' → w'.cell? ⟨r, 0, none⟩ = some (.slice (some ⟨g, o, none⟩) n c) ∧ w'.cell? ⟨r, 1, none⟩ = some (.int .i64 (i : Nat)) ∧ w'.cell? ⟨g, o + i * 3, none⟩ = some (.int .i64 k) ∧ w'.cell? ⟨g, o + i * 3 + 1, none⟩ = some (.string tx) ∧ w'.cell? ⟨g, o + i * 3 + 1 + 1, none⟩ = some (.int .i64 ta) ∧ Hid (Below w.heap.size w w')) := Lib.hid (fun w' g' => ⟨(g'.cell (p := ⟨_, _, none⟩) i3).trans x1, (g'.cell (p := ⟨_, _, none⟩) i3).trans x2, (g'.cell (p := ⟨_, _, none⟩) i5).trans y1, (g'.cell (p := ⟨_, _, none⟩) i5).trans y2, (g'.cell (p := ⟨_, _, none⟩) i5).trans y4, Lib.hid g'⟩)
    go_enter Tryd.func41, Tryd.ntmps41
    go_upto_region 1 with fail
    go_cut [5] (fun s5 wx => s5 = .pointer (some ⟨w.heap.size, 0, none⟩) ∧ Hid (Has wx w.heap.size #[.int .i64 k, .string tx, .int .i64 ta]) ∧ Hid (Below w.heap.size w wx))
    case first =>
      have hs0 := Hb.out _ (Below.refl _ w).drew
      clear x1 x2 x3 x4 f1 f2 f3 y1 y2 y3 y4
      go_region_held3 (fun w' => w'.cell? ⟨r, 0, none⟩ = some (.slice (some ⟨g, o, none⟩) n c) ∧ w'.cell? ⟨r, 1, none⟩ = some (.int .i64 (i : Nat)) ∧ w'.cell? ⟨g, o + i * 3, none⟩ = some (.int .i64 k) ∧ w'.cell? ⟨g, o + i * 3 + 1, none⟩ = some (.string tx) ∧ w'.cell? ⟨g, o + i * 3 + 1 + 1, none⟩ = some (.int .i64 ta) ∧ Hid (Below w.heap.size w w'))
        (first | (with_reducible assumption) | (with_reducible exact ⟨‹_›, ‹_›, ‹_›, ‹_›, ‹_›, ‹_›⟩) | (with_reducible refine Hb.out _ ?_; repeat (first | (with_reducible exact Hid.out (by assumption)) | (with_reducible exact Below.refl _ _) | (with_reducible refine Below.drew ?_) | (with_reducible refine Below.alloc ?_ (Nat.le_refl _) _))))
        (fail)
      all_goals
        go_wp2_with fail
        go_meet
        exact ⟨rfl, Lib.hid (Has.new w _ _).drew, Lib.hid ((Below.refl _ w).alloc (Nat.le_refl _) _).drew⟩
    case rest =>
      obtain ⟨rfl, H5, B5⟩ := hcut
      have z0 := H5.out.cell 0
      have z1 := H5.out.cell 1
      have e3 := (B5.out.cell (p := ⟨r, 3, none⟩) i3).trans x4
      simp only [List.getElem?_toArray, List.getElem?_cons_zero, List.getElem?_cons_succ] at z0 z1
      clear x1 x2 x3 x4 f1 f2 f3 y1 y2 y3 y4 Hb
      go_wp2_with fail
      go_ret
      exact ⟨rfl, B5.out⟩
set_option maxRecDepth 100000 in
set_option maxHeartbeats 1600000 in
theorem is_err (w : World) (r : Nat) (ts : List GTok) (a er : Int) (s : ByteArray) (h : RR w r ts a er) (her : er ≠ 0) :
    Calls Tryd.prog 41 #[.pointer (some ⟨r, 0, none⟩), .string s] w fun e w' => e = .returned (.bool false) ∧ Below w.heap.size w w' := by
  obtain ⟨g, o, c, n, i, i1, i2, i3, i4, i5, x1, x2, x3, x4, f1, f2, f3, y1, y2, y3, y4⟩ := h.open
  have hi1 : (i : Int) < (n : Int) := by omega
  have hi0 : 0 ≤ (i : Int) := by omega
  have he : (er == 0) = false := by rw [beq_eq_false_iff_ne]; exact her
  clear h her
  generalize (hd ts).1 = k at *
  generalize (hd ts).2.1 = tx at *
  generalize (hd ts).2.2 = ta at *
  have Hb : Hid (∀ w', Below w.heap.size w w' → w'.cell? ⟨r, 0, none⟩ = some (.slice (some ⟨g, o, none⟩) n c) ∧ w'.cell? ⟨r, 1, none⟩ = some (.int .i64 (i : Nat)) ∧ w'.cell? ⟨g, o + i * 3, none⟩ = some (.int .i64 k) ∧ w'.cell? ⟨g, o + i * 3 + 1, none⟩ = some (.string tx) ∧ w'.cell? ⟨g, o + i * 3 + 1 + 1, none⟩ = some (.int .i64 ta) ∧ Hid (Below w.heap.size w w')) := Lib.hid (fun w' g' => ⟨(g'.cell (p := ⟨_, _, none⟩) i3).trans x1, (g'.cell (p := ⟨_, _, none⟩) i3).trans x2, (g'.cell (p := ⟨_, _, none⟩) i5).trans y1, (g'.cell (p := ⟨_, _, none⟩) i5).trans y2, (g'.cell (p := ⟨_, _, none⟩) i5).trans y4, Lib.hid g'⟩)
  go_enter Tryd.func41, Tryd.ntmps41
  go_upto_region 1 with fail
  go_cut [5] (fun s5 wx => s5 = .pointer (some ⟨w.heap.size, 0, none⟩) ∧ Hid (Has wx w.heap.size #[.int .i64 k, .string tx, .int .i64 ta]) ∧ Hid (Below w.heap.size w wx))
  case first =>
    have hs0 := Hb.out _ (Below.refl _ w).drew
    clear x1 x2 x3 x4 f1 f2 f3 y1 y2 y3 y4
    go_region_held3 (fun w' => w'.cell? ⟨r, 0, none⟩ = some (.slice (some ⟨g, o, none⟩) n c) ∧ w'.cell? ⟨r, 1, none⟩ = some (.int .i64 (i : Nat)) ∧ w'.cell? ⟨g, o + i * 3, none⟩ = some (.int .i64 k) ∧ w'.cell? ⟨g, o + i * 3 + 1, none⟩ = some (.string tx) ∧ w'.cell? ⟨g, o + i * 3 + 1 + 1, none⟩ = some (.int .i64 ta) ∧ Hid (Below w.heap.size w w'))
      (first | (with_reducible assumption) | (with_reducible exact ⟨‹_›, ‹_›, ‹_›, ‹_›, ‹_›, ‹_›⟩) | (with_reducible refine Hb.out _ ?_; repeat (first | (with_reducible exact Hid.out (by assumption)) | (with_reducible exact Below.refl _ _) | (with_reducible refine Below.drew ?_) | (with_reducible refine Below.alloc ?_ (Nat.le_refl _) _))))
      (fail)
    all_goals
      go_wp2_with fail
      go_meet
      exact ⟨rfl, Lib.hid (Has.new w _ _).drew, Lib.hid ((Below.refl _ w).alloc (Nat.le_refl _) _).drew⟩
  case rest =>
    obtain ⟨rfl, H5, B5⟩ := hcut
    have z0 := H5.out.cell 0
    have z1 := H5.out.cell 1
    have e3 := (B5.out.cell (p := ⟨r, 3, none⟩) i3).trans x4
    simp only [List.getElem?_toArray, List.getElem?_cons_zero, List.getElem?_cons_succ] at z0 z1
    clear x1 x2 x3 x4 f1 f2 f3 y1 y2 y3 y4 Hb
    go_wp2_with fail
    go_ret
    exact ⟨rfl, B5.out⟩
set_option maxRecDepth 100000 in
set_option maxHeartbeats 1600000 in
theorem fail_ok (w : World) (r : Nat) (ts : List GTok) (a er : Int) (h : RR w r ts a 0) :
    Calls Tryd.prog 30 #[.pointer (some ⟨r, 0, none⟩), .int .i64 er] w fun e w' => e = .returned (.tuple #[]) ∧ RR w' r ts (hd ts).2.2 er ∧ Ch r w w' := by
  have HR := Lib.hid h
  obtain ⟨g, o, c, n, i, i1, i2, i3, i4, i5, x1, x2, x3, x4, f1, f2, f3, y1, y2, y3, y4⟩ := h.open
  have hi1 : (i : Int) < (n : Int) := by omega
  have hi0 : 0 ≤ (i : Int) := by omega
  clear h
  generalize (hd ts).1 = k at *
  generalize (hd ts).2.1 = tx at *
  generalize (hd ts).2.2 = ta at *
  go_enter Tryd.func30, Tryd.ntmps30
  go_wp2_with fail
  go_still_tail 14, (by kernel_rfl)
  change wpList _ _ _ _ _ w.drew
  go_wp2_with fail
  go_end0
  exact ⟨rfl, RR.fail (w := w.drew) HR.out ta er, ((Ch.refl r w).below (Below.refl _ _).drew |>.put (Or.inl rfl) _).put (Or.inl rfl) _⟩
set_option maxRecDepth 100000 in
set_option maxHeartbeats 1600000 in
theorem fail_err (w : World) (r : Nat) (ts : List GTok) (a er er2 : Int) (h : RR w r ts a er) (her : er ≠ 0) :
    Calls Tryd.prog 30 #[.pointer (some ⟨r, 0, none⟩), .int .i64 er2] w fun e w' => e = .returned (.tuple #[]) ∧ w = w' := by
  obtain ⟨g, o, c, n, i, i1, i2, i3, i4, i5, x1, x2, x3, x4, f1, f2, f3, y1, y2, y3, y4⟩ := h.open
  have hi1 : (i : Int) < (n : Int) := by omega
  have hi0 : 0 ≤ (i : Int) := by omega
  have he : (er == 0) = false := by rw [beq_eq_false_iff_ne]; exact her
  clear h her
  go_enter Tryd.func30, Tryd.ntmps30
  go_wp2_with fail
  go_end0
  exact ⟨rfl, rfl⟩
end RefA
end Go.Proofs.YtdalepdpobcpaaaDoor
