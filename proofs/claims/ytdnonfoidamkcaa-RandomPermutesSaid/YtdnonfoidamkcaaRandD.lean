/- What the closure that draws does, and words for a block of integers. -/
import Derived.Test.YtdnonfoidamkcaaRandB
import Derived.Test.YtdnonfoidamkcaaRandC
import Derived.Laws.MakeOwn
namespace Go.Proofs.Ytdnonfoidamkcaa
open Go Go.RowKit
namespace RandD
open Kit RandM RandA RandB
/-- w' is w but for block g and new blocks. -/
structure But (g : Nat) (w w' : World) : Prop where
  os : w'.os = w.os
  tape : w'.tape = w.tape
  output : w'.output = w.output
  size : w.heap.size ≤ w'.heap.size
  block : ∀ k, k < w.heap.size → k ≠ g → w'.heap[k]? = w.heap[k]?
section
variable {g : Nat} {w w' w2 : World}
theorem But.of (h : Below w.heap.size w w') : But g w w' := ⟨h.os, h.tape, h.output, h.size, fun k hk _ => h.block k hk⟩
theorem But.set (h : But g w w') (i : Nat) (u : Value) : But g w (w'.setCell ⟨g, i, none⟩ u) :=
  ⟨h.os, h.tape, h.output, by simp [World.setCell]; exact h.size, fun k hk hg => (Below.heap_setCell _ _ _ _ hg).trans (h.block k hk hg)⟩
theorem But.alloc (h : But g w w') (o : Obj) : But g w (w'.alloc o) :=
  ⟨h.os, h.tape, h.output, by have := h.size; simp; omega, fun k hk hg => (Below.heap_alloc _ _ _ (by have := h.size; omega)).trans (h.block k hk hg)⟩
theorem But.drew (h : But g w w') : But g w w'.drew := ⟨h.os, h.tape, h.output, h.size, h.block⟩
theorem But.has (h : But g w w') {k : Nat} {cs : Array Value} (hk : Has w k cs) (hg : k ≠ g) : Has w' k cs := by
  have hl := hk.lt
  obtain ⟨t, hk⟩ := hk
  exact ⟨t, (h.block k hl hg).trans hk⟩
theorem But.below {B : Nat} {a : World} (h : But g w w') (hb : Below B a w) (hB : B ≤ a.heap.size) (hg : B ≤ g) : Below B a w' :=
  hb.trans ⟨h.os, h.tape, h.output, h.size, fun k hk => h.block k (by have := hb.size; omega) (by omega)⟩
end
/-- The cells of a list of integers. -/
def vals (l : List Int) : Array Value := (l.map (Value.int .i64)).toArray
theorem vals_get (l : List Int) (i : Nat) (h : i < l.length) : (vals l)[i]? = some (.int .i64 (l.getD i 0)) := by
  simp [vals, List.getD, h]
theorem vals_set (l : List Int) (i : Nat) (x : Int) : (vals l).setIfInBounds i (.int .i64 x) = vals (l.set i x) := by
  simp [vals, List.map_set]
theorem Has.get {w : World} {g : Nat} {l : List Int} (h : Has w g (vals l)) (i : Nat) (hi : i < l.length) : w.cell? ⟨g, i, none⟩ = some (.int .i64 (l.getD i 0)) :=
  (h.cell i).trans (vals_get l i hi)
theorem Has.put {w : World} {g : Nat} {l : List Int} (h : Has w g (vals l)) (i : Nat) (x : Int) : Has (w.setCell ⟨g, i, none⟩ (.int .i64 x)) g (vals (l.set i x)) := by
  rw [← vals_set]; exact h.set i _
/-- 0 .. k-1, then zeros up to m members. -/
def fill (m k : Nat) : List Int := upTo k ++ List.replicate (m - k) 0
theorem fill_zero (m : Nat) : fill m 0 = List.replicate m 0 := by simp [fill, upTo]
theorem fill_all (m : Nat) : fill m m = upTo m := by simp [fill]
theorem fill_length (m k : Nat) (h : k ≤ m) : (fill m k).length = m := by simp [fill, upTo_length]; omega
theorem fill_next (m k : Nat) (h : k < m) : (fill m k).set k (k : Int) = fill m (k + 1) := by
  obtain ⟨d, rfl⟩ : ∃ d, m = k + (d + 1) := ⟨m - k - 1, by omega⟩
  have e1 : k + (d + 1) - k = d + 1 := by omega
  have e2 : k + (d + 1) - (k + 1) = d := by omega
  unfold fill
  rw [e1, e2, List.set_append_right _ _ (by rw [upTo_length]; omega), upTo_length, Nat.sub_self, List.replicate_succ, List.set_cons_zero]
  unfold upTo
  rw [List.range_succ]
  simp
theorem made (m : Nat) : madeCells (Value.int .i64 0).cells m = vals (List.replicate m 0) := by
  unfold madeCells vals
  apply Array.ext
  · simp
  · intro i h1 h2
    simp [Value.cells, Nat.mod_one]
theorem drawer_any (a : Addr) (w : World) :
    Calls Try.prog 25 #[.pointer (some a)] w fun e w' => e = .returned (.func (.func 29) #[] #[.pointer (some ⟨w.heap.size, 0, none⟩)]) ∧ w' = w.alloc (.cells #[.pointer (some a)] 49) := by
  have hmf : ∀ (fn : Fn) (first cap : Array Value) (w : World), (Instr.makeFunc fn first cap).run Try.prog w = .ok (.func fn first cap) w := fun _ _ _ _ => rfl
  go_enter Try.func25, Try.ntmps25
  go_wp2
  go_ret
  exact ⟨rfl, rfl⟩
set_option maxHeartbeats 1600000 in
theorem draw_any (P G : Nat) (s n : Int) (q : Nat) (w : World) (hP : Has w P #[.pointer (some ⟨G, 0, none⟩)]) (hG : Has w G #[.int .u64 s]) (h : 1 ≤ n) (h' : n ≤ 9223372036854775807) (hq : mix s % n = q) :
    Calls Try.prog 29 #[.int .i64 n, .pointer (some ⟨P, 0, none⟩)] w fun e w' => e = .returned (.int .i64 q) ∧ Has w' G #[.int .u64 (stp s)] ∧ But G w w' := by
  have C := Lib.hid (fun w => below_hi s n w h h')
  rw [hq] at C
  clear hq
  generalize stp s = s' at *
  have p1 := hP.cell 0
  have g1 := hG.cell 0
  have g2 := hG.free 0
  have p3 := hP.lt
  have g3 := hG.lt
  simp only [List.getElem?_toArray, List.getElem?_cons_zero] at p1 g1
  go_enter Try.func29, Try.ntmps29
  go_wp2_with fail
  refine (C.out _).mono ?_
  rintro e w1 ⟨rfl, k1⟩
  have P1 := hP.step0 k1
  have G1 := hG.step0 k1
  clear p1 g1 g2 p3 g3
  have p1 := P1.cell 0
  have g1 := G1.cell 0
  have g2 := G1.free 0
  have p3 := P1.lt
  have g3 := G1.lt
  simp only [List.getElem?_toArray, List.getElem?_cons_zero] at p1 g1
  have K1 := Lib.hid k1
  clear k1
  go_wp2_with fail
  go_ret
  exact ⟨rfl, (G1.set 0 _).alloc _, ((But.of K1.out).set 0 _).alloc _⟩
end RandD
end Go.Proofs.Ytdnonfoidamkcaa
