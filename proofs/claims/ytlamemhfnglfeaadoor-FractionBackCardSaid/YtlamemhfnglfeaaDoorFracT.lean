/- The contract of fraction.Text, for all integers, where strconv's table of powers of ten is as laid. -/
import Derived.Test.YtlamemhfnglfeaaDoorKit
import Derived.Test.YtlamemhfnglfeaaDoorShelf
import Derived.Lib.SmallJoins
import Derived.Lib.ItoaLen
import Derived.Lib.AppendIntMem
import Derived.Deep.RegionHeld3
namespace Go.Proofs.YtlamemhfnglfeaaDoor
open Go Go.RowKit
namespace FracT
open Kit

abbrev Tab (w : World) : Prop := Lib.TabIs Tryd.prog w "internal/strconv.uint64pow10" .u64 Lib.pow10Tab
theorem tab_below {w w' : World} (h : Tab w) (hb : Below w.heap.size w w') : Tab w' := Lib.tabBelow_of_tabIs h w' hb

theorem below_grow (w : World) (k : Nat) (os : Array Obj) : Below w.heap.size w (Sort.grow (w.drewN k) os) := by
  have hd := below_drewN (Below.refl w.heap.size w) k
  refine ⟨hd.os, hd.tape, hd.output, ?_, fun g hg => ?_⟩
  · rw [Sort.size_grow]; exact Nat.le_trans hd.size (Nat.le_add_right _ _)
  · rw [Sort.heap_grow_old _ _ (by exact hg)]; exact hd.block g hg
theorem itoa_any (n : Int) (h0 : -9223372036854775808 ≤ n) (h1 : n ≤ 9223372036854775807) (w : World) (ht : Tab w) :
    Calls Tryd.prog 51 #[.int .i64 n] w fun e w' => e = .returned (.string ⟨(Lib.itoa n).toArray⟩) ∧ Below w.heap.size w w' :=
  (Tryd.strconv_Itoa n h0 h1 w ht).mono fun _ _ ⟨he, k, os, hw⟩ => ⟨he, by rw [hw]; exact below_grow w k os⟩

/-- The text of a fraction. -/
def text (n d : Int) : List UInt8 := if d = 1 then Lib.itoa n else Lib.itoa n ++ [47] ++ Lib.itoa d

theorem text_one (n : Int) (w : World) (h0 : -9223372036854775808 ≤ n) (h1 : n ≤ 9223372036854775807) (ht : Tab w) :
    Calls Tryd.prog 38 #[.agg #[.int .i64 n, .int .i64 1]] w fun e w' => e = .returned (.string ⟨(text n 1).toArray⟩) ∧ Below w.heap.size w w' := by
  have hx : text n 1 = Lib.itoa n := by simp [text]
  rw [hx]
  clear hx
  generalize hl : Lib.itoa n = l
  have hi := fun w2 (ht2 : Tab w2) => itoa_any n h0 h1 w2 ht2
  rw [hl] at hi
  have Hi := Lib.hid hi; clear hi hl
  go_enter Tryd.func38, Tryd.ntmps38
  go_wp2_with fail
  refine (Hi.out _ (tab_below ht (below_alloc _ _))).mono ?_
  rintro e w1 ⟨rfl, k1⟩
  go_wp2_with fail
  go_ret
  exact ⟨rfl, (below_alloc w _).trans (k1.mono (by simp))⟩

def Go1 (w w' : World) : Prop := Below w.heap.size w w' ∧ w.heap.size < w'.heap.size ∧ Tab w'
theorem go1_first {w : World} (ht : Tab w) (o : Obj) : Go1 w (w.alloc o).drew :=
  ⟨(below_alloc w o).drew, by simp, tab_below ht (below_alloc w o).drew⟩
theorem go1_next {w w1 w2 : World} (h : Go1 w w1) (hb : Below w1.heap.size w1 w2) : Go1 w w2 :=
  ⟨h.1.trans (hb.mono (Nat.le_of_lt h.2.1)), Nat.lt_of_lt_of_le h.2.1 hb.size, tab_below h.2.2 hb⟩
theorem go1_cell {w w1 w2 : World} (h : Go1 w w1) (hb : Below w1.heap.size w1 w2) {i : Nat} {v : Value} (hc : w1.cell? ⟨w.heap.size, i, none⟩ = some v) : w2.cell? ⟨w.heap.size, i, none⟩ = some v :=
  (hb.cell (p := ⟨w.heap.size, i, none⟩) h.2.1).trans hc

abbrev S1 (w : World) (x y : Value) (w' : World) : Prop := w'.cell? ⟨w.heap.size, 0, none⟩ = some x ∧ w'.cell? ⟨w.heap.size, 1, none⟩ = some y ∧ Hid (Go1 w w')
theorem s1_next {w w1 w2 : World} {x y : Value} (h : S1 w x y w1) (hb : Below w1.heap.size w1 w2) : S1 w x y w2 :=
  ⟨go1_cell h.2.2.out hb h.1, go1_cell h.2.2.out hb h.2.1, go1_next h.2.2.out hb⟩

/-- Itoa with its answer under a name, beside the two cells that the statement reads. -/
def Said (n : Int) (s : ByteArray) : Prop := ∀ w2, Tab w2 → Calls Tryd.prog 51 #[.int .i64 n] w2 fun e w' => e = .returned (.string s) ∧ Below w2.heap.size w2 w'
theorem said_at {n : Int} {s : ByteArray} (h : Said n s) {w w1 : World} {x y : Value} (hS : S1 w x y w1) :
    Calls Tryd.prog 51 #[.int .i64 n] w1 fun e w2 => e = .returned (.string s) ∧ w2.cell? ⟨w.heap.size, 0, none⟩ = some x ∧ w2.cell? ⟨w.heap.size, 1, none⟩ = some y ∧ Hid (Go1 w w2) :=
  (h w1 hS.2.2.out.2.2).mono fun _ _ ⟨he, hb⟩ => ⟨he, s1_next hS hb⟩

set_option maxRecDepth 100000 in
set_option maxHeartbeats 1600000 in
theorem text_sep (n d : Int) (s1 s2 : ByteArray) (w : World) (hd' : (d == 1) = false) (l1 : s1.size ≤ 21) (l2 : s2.size ≤ 21) (ht : Tab w) (h1 : Said n s1) (h2 : Said d s2) :
    Calls Tryd.prog 38 #[.agg #[.int .i64 n, .int .i64 d]] w fun e w' => e = .returned (.string (s1 ++ ⟨#[47]⟩ ++ s2)) ∧ Below w.heap.size w w' := by
  have p1 : ∀ w', (Op.stringOp .add s1 ⟨#[47]⟩).run Tryd.prog w' = .ok (.string (s1 ++ ⟨#[47]⟩)) w' := fun w' => run_string_add_sum w' _ _ (by show s1.size + 1 ≤ _; omega)
  have p2 : ∀ w', (Op.stringOp .add (s1 ++ ⟨#[47]⟩) s2).run Tryd.prog w' = .ok (.string (s1 ++ ⟨#[47]⟩ ++ s2)) w' := fun w' => run_string_add_sum w' _ _ (by rw [ByteArray.size_append]; show s1.size + 1 + s2.size ≤ _; omega)
  go_enter Tryd.func38, Tryd.ntmps38
  go_wp2_with fail
  go_region_held3 (fun w' => w'.cell? ⟨w.heap.size, 0, none⟩ = some (.int .i64 n) ∧ w'.cell? ⟨w.heap.size, 1, none⟩ = some (.int .i64 d) ∧ Hid (Go1 w w'))
    (first
      | (refine ⟨by simp, by simp, ?_⟩; exact go1_first ht _)
      | (exact ⟨‹_›, ‹_›, ‹_›⟩))
    (first | (go_at_call 51; go_split_ands; (first | (with_reducible refine (said_at h1 (w := w) (x := .int .i64 n) (y := .int .i64 d) ⟨‹_›, ‹_›, ‹_›⟩).mono ?_) | (with_reducible refine (said_at h2 (w := w) (x := .int .i64 n) (y := .int .i64 d) ⟨‹_›, ‹_›, ‹_›⟩).mono ?_)); rintro e w' ⟨rfl, qa, qb, qc⟩))
  go_wp2
  go_ret
  exact ⟨rfl, qc.out.1⟩

theorem said_itoa (n : Int) (h0 : -9223372036854775808 ≤ n) (h1 : n ≤ 9223372036854775807) : Said n ⟨(Lib.itoa n).toArray⟩ := fun w2 ht => itoa_any n h0 h1 w2 ht

/-- Text, for all integers. -/
theorem text_any (n d : Int) (w : World) (h0 : -9223372036854775808 ≤ n) (h1 : n ≤ 9223372036854775807) (g0 : -9223372036854775808 ≤ d) (g1 : d ≤ 9223372036854775807) (ht : Tab w) :
    Calls Tryd.prog 38 #[.agg #[.int .i64 n, .int .i64 d]] w fun e w' => e = .returned (.string ⟨(text n d).toArray⟩) ∧ Below w.heap.size w w' := by
  by_cases hd : d = 1
  · subst hd
    exact text_one n w h0 h1 ht
  · have l1 := Lib.itoa_length_le n h0 h1
    have l2 := Lib.itoa_length_le d g0 g1
    have hx : (⟨(text n d).toArray⟩ : ByteArray) = (⟨(Lib.itoa n).toArray⟩ : ByteArray) ++ ⟨#[47]⟩ ++ ⟨(Lib.itoa d).toArray⟩ := by
      apply ByteArray.ext
      simp [text, hd, ByteArray.data_append]
    rw [hx]
    exact text_sep n d _ _ w (by simpa using hd) (by simpa [ByteArray.size] using l1) (by simpa [ByteArray.size] using l2) ht (said_itoa n h0 h1) (said_itoa d g0 g1)
end FracT
end Go.Proofs.YtlamemhfnglfeaaDoor
