/- The reader of tokens in memory; what a call may turn: the reader's cell and new blocks. No conditions. -/
import Derived.Test.YtdalepdpobcpaaaDoorParM
import Derived.Test.YtdalepdpobcpaaaDoorTermI
import Derived.Test.YtdalepdpobcpaaaDoorTermU
import Derived.WalkSmall
import Derived.WalkLawsBesides
import Derived.Laws.ResultCell
namespace Go.Proofs.YtdalepdpobcpaaaDoor
open Go Go.RowKit
namespace ParA
open Kit LexM TermM TermI TermU LexP ParM
/-- Of what was there only block r may have turned. -/
abbrev Ch (r : Nat) (a b : World) : Prop := a.grownBy b (some r)
theorem Ch.refl (r : Nat) (w : World) : Ch r w w := ⟨rfl, rfl, rfl, Nat.le_refl _, fun _ _ _ => rfl⟩
theorem Ch.trans {r : Nat} {a b c : World} (h : Ch r a b) (k : Ch r b c) : Ch r a c :=
  ⟨World.grownBy.os k |>.trans h.os, k.tape.trans h.tape, k.output.trans h.output, Nat.le_trans h.size k.size, fun i hi hr => (k.block i (Nat.lt_of_lt_of_le hi h.size) hr).trans (h.block i hi hr)⟩
theorem Ch.of {r : Nat} {a b : World} (h : Below a.heap.size a b) : Ch r a b := ⟨h.os, h.tape, h.output, h.size, fun i hi _ => h.block i hi⟩
theorem Ch.below {r : Nat} {a b c : World} (h : Ch r a b) (k : Below b.heap.size b c) : Ch r a c := h.trans (Ch.of k)
theorem Ch.put {r : Nat} {a b : World} (h : Ch r a b) {p : Addr} (hp : p.block = r ∨ a.heap.size ≤ p.block) (u : Value) : Ch r a (b.setCell p u) := by
  refine ⟨h.os, h.tape, h.output, Nat.le_trans h.size (by simp [World.setCell]), fun i hi hr => (Below.heap_setCell _ _ _ _ (fun e => ?_)).trans (h.block i hi hr)⟩
  rcases hp with hp | hp
  · exact hr (by rw [e, hp])
  · omega
theorem Ch.alloc {r : Nat} {a b : World} (h : Ch r a b) (o : Obj) : Ch r a (b.alloc o) := h.below (below_alloc b o)
theorem Ch.grown {r : Nat} {a b c : World} {row : Option Nat} (h : Ch r a b) (hg : b.grownBy c row) (hr : ∀ k, row = some k → a.heap.size ≤ k) : Ch r a c :=
  ⟨hg.os.trans h.os, hg.tape.trans h.tape, hg.output.trans h.output, Nat.le_trans h.size hg.size, fun i hi hne => (hg.block i (Nat.lt_of_lt_of_le hi h.size) (fun e => by have := hr i e.symm; omega)).trans (h.block i hi hne)⟩
theorem Ch.cell {r : Nat} {a b : World} (h : Ch r a b) {g o : Nat} (hg : g < a.heap.size) (hne : g ≠ r) : b.cell? ⟨g, o, none⟩ = a.cell? ⟨g, o, none⟩ :=
  World.cell?_of_block (w := a) (a := ⟨g, o, none⟩) (h.block g hg (fun e => hne (Option.some.inj e)))
theorem Ch.has {r : Nat} {a b : World} {g : Nat} {cs : Array Value} (h : Ch r a b) (k : Has a g cs) (hne : g ≠ r) : Has b g cs := by
  have hl := k.lt
  obtain ⟨t, k⟩ := k
  exact ⟨t, (h.block g hl (fun e => hne (Option.some.inj e))).trans k⟩
theorem Ch.toBelow {r B : Nat} {a b : World} (h : Ch r a b) (hB : B ≤ r) (hs : B ≤ a.heap.size) : Below B a b :=
  ⟨h.os, h.tape, h.output, h.size, fun i hi => h.block i (by omega) (fun e => by have := Option.some.inj e; omega)⟩
/-- Terms that lie in new blocks stay. -/
theorem slin_ch {r lo : Nat} {a b : World} {l : List Tm} {v : Value} (h : SlIn (fun k => lo ≤ k ∧ k < a.heap.size) a l v) (g : Ch r a b) (hr : r < lo) : SlIn (fun k => lo ≤ k ∧ k < b.heap.size) b l v :=
  (h.frame fun k _ hk => g.cell hk.2 (by omega)).weaken fun k hk => ⟨hk.1, Nat.lt_of_lt_of_le hk.2 g.size⟩
theorem own_ch {r base : Nat} {a b : World} {L : List (Tm × Value)} {v : Value} (h : Own base a L v) (g : Ch r a b) (hr : r < base) : Own base b L v := by
  obtain ⟨h1, ok, h2, h3⟩ := h
  have hl := h1.lt
  refine ⟨⟨h1.1, ?_⟩, ok, fun b hk => ⟨(h2 b hk).1, Nat.lt_of_lt_of_le (h2 b hk).2.1 g.size, (h2 b hk).2.2⟩, fun x hx => ⟨(h3 x hx).1.frame fun b o hk => g.cell (h2 b hk).2.1 (by have := (h2 b hk).1; omega), (h3 x hx).2⟩⟩
  rcases h1.2 with h | ⟨k, cap, cur, e1, e2, e3, e4⟩
  · exact Or.inl h
  · exact Or.inr ⟨k, cap, cur, e1, e2, (g.block k (hl k (by rw [e1]; rfl)).2 (fun e => by have := Option.some.inj e; omega)).trans e3, e4⟩
/-- The reader at block r has these tokens left. -/
def Rd (w : World) (r : Nat) (ts : List GTok) : Prop :=
  Wf ts ∧ (∀ t ∈ ts, t.2.1.size ≤ maxLen) ∧ ∃ g o c, Has w r #[.slice (some ⟨g, o, none⟩) ts.length c] ∧ ts.length ≤ c ∧ c ≤ maxLen ∧ g < r ∧ Toks w g o ts
theorem toks_ch {r g o : Nat} {a b : World} {ts : List GTok} (h : Toks a g o ts) (k : Ch r a b) (hne : g ≠ r) : Toks b g o ts :=
  ⟨Nat.lt_of_lt_of_le h.1 k.size, fun i t hi => ⟨(k.cell h.1 hne).trans (h.2 i t hi).1, (k.cell h.1 hne).trans (h.2 i t hi).2.1, (k.cell h.1 hne).trans (h.2 i t hi).2.2⟩⟩
theorem Rd.below {w w' : World} {r : Nat} {ts : List GTok} (h : Rd w r ts) (k : Below w.heap.size w w') : Rd w' r ts := by
  obtain ⟨h1, h2, g, o, c, h3, h4, h5, h6, h7⟩ := h
  exact ⟨h1, h2, g, o, c, h3.step0 k, h4, h5, h6, h7.below k h7.1⟩
theorem Rd.alloc {w : World} {r : Nat} {ts : List GTok} (h : Rd w r ts) (o : Obj) : Rd (w.alloc o) r ts := h.below (below_alloc w o)
theorem Rd.far {w : World} {r : Nat} {ts : List GTok} (h : Rd w r ts) {p : Addr} (hp : r < p.block) (u : Value) : Rd (w.setCell p u) r ts := by
  obtain ⟨h1, h2, g, o, c, h3, h4, h5, h6, h7⟩ := h
  have hc : ∀ k off, k < p.block → (w.setCell p u).cell? ⟨k, off, none⟩ = w.cell? ⟨k, off, none⟩ := fun k off hk => World.cell?_of_block (w := w) (a := ⟨k, off, none⟩) (Below.heap_setCell _ _ _ _ (by show k ≠ p.block; omega))
  exact ⟨h1, h2, g, o, c, h3.far (by omega) u, h4, h5, h6, by simpa [World.setCell] using h7.1, fun i t hi => ⟨(hc _ _ (by omega)).trans (h7.2 i t hi).1, (hc _ _ (by omega)).trans (h7.2 i t hi).2.1, (hc _ _ (by omega)).trans (h7.2 i t hi).2.2⟩⟩
theorem Rd.grown {w w' : World} {r : Nat} {ts : List GTok} {row : Option Nat} (h : Rd w r ts) (hg : w.grownBy w' row) (hr : ∀ k, row = some k → r < k) : Rd w' r ts := by
  obtain ⟨h1, h2, g, o, c, h3, h4, h5, h6, h7⟩ := h
  have hl := h3.lt
  obtain ⟨t, h3⟩ := h3
  have hc : ∀ off, w'.cell? ⟨g, off, none⟩ = w.cell? ⟨g, off, none⟩ := fun off => World.cell?_of_block (w := w) (a := ⟨g, off, none⟩) (hg.block g h7.1 (fun e => by have := hr g e.symm; omega))
  exact ⟨h1, h2, g, o, c, ⟨t, (hg.block r hl (fun e => by have := hr r e.symm; omega)).trans h3⟩, h4, h5, h6, Nat.lt_of_lt_of_le h7.1 hg.size, fun i u hi => ⟨(hc _).trans (h7.2 i u hi).1, (hc _).trans (h7.2 i u hi).2.1, (hc _).trans (h7.2 i u hi).2.2⟩⟩
theorem Rd.wf {w : World} {r : Nat} {ts : List GTok} (h : Rd w r ts) : Wf ts := h.1
theorem Rd.lt {w : World} {r : Nat} {ts : List GTok} (h : Rd w r ts) : r < w.heap.size := by
  obtain ⟨_, _, _, _, _, h3, _⟩ := h; exact h3.lt
theorem Rd.nm {w : World} {r : Nat} {ts : List GTok} (h : Rd w r ts) : (hd ts).2.1.size ≤ maxLen := h.2.1 _ (List.mem_of_getElem? (hd_get h.1.ne))
abbrev PE (a er : Int) : List PanicEntry := [{ v := .iface 75 (.agg #[.int .i64 a, .int .i64 er]), recovered := false }]
set_option maxHeartbeats 400000 in
theorem next_any (w : World) (r : Nat) (ts : List GTok) (h : Rd w r ts) :
    Calls Tryd.prog 47 #[.pointer (some ⟨r, 0, none⟩)] w fun e w' => e = .returned (.agg #[.int .i64 (hd ts).1, .string (hd ts).2.1, .int .i64 (hd ts).2.2]) ∧ Below w.heap.size w w' := by
  obtain ⟨h1, _, g, o, c, h3, h4, h5, h6, h7⟩ := h
  have hlen := h1.ne
  obtain ⟨x1, x2, x3⟩ := h7.2 0 _ (hd_get hlen)
  have hc := h3.cell 0
  have hz : w.heap.size = w.heap.size := rfl
  have hlr := h3.lt
  have hlg := h7.1
  rw [Nat.zero_mul, Nat.add_zero] at x1 x2 x3
  simp only [List.getElem?_toArray, List.getElem?_cons_zero] at hc
  generalize hd ts = t at *
  generalize ts.length = n at *
  have hn : (0 : Int) < n := by omega
  clear h1 h3 h7 hz
  go_enter Tryd.func47, Tryd.ntmps47
  go_wp2_with fail
  refine bodyPost_ret (v := .agg #[.int .i64 t.1, .string t.2.1, .int .i64 t.2.2]) (by simp [results, Tryd.results47, go_sem]) rfl ⟨rfl, ?_⟩
  exact below_alloc w _
theorem fld0 : ∀ (a b c : Value) (W : World), (Instr.field 61 (.agg #[a, b, c]) 0).run Tryd.prog W = .ok a W := fun _ _ _ _ => by kernel_rfl
theorem fld1 : ∀ (a b c : Value) (W : World), (Instr.field 61 (.agg #[a, b, c]) 1).run Tryd.prog W = .ok b W := fun _ _ _ _ => by kernel_rfl
theorem fld2 : ∀ (a b c : Value) (W : World), (Instr.field 61 (.agg #[a, b, c]) 2).run Tryd.prog W = .ok c W := fun _ _ _ _ => by kernel_rfl
set_option maxHeartbeats 400000 in
theorem fail_no (w : World) (r : Nat) (er : Int) :
    Calls Tryd.prog 46 #[.pointer (some ⟨r, 0, none⟩), .bool false, .int .i64 er] w fun e w' => e = .returned (.tuple #[]) ∧ w = w' := by
  go_enter Tryd.func46, Tryd.ntmps46
  go_wp2_with fail
  go_end0
  exact ⟨rfl, rfl⟩
set_option maxRecDepth 100000 in
set_option maxHeartbeats 400000 in
theorem fail_yes (w : World) (r : Nat) (er : Int) (ts : List GTok) (h : Rd w r ts) :
    Calls Tryd.prog 46 #[.pointer (some ⟨r, 0, none⟩), .bool true, .int .i64 er] w fun e w' => e = .panicked (PE (hd ts).2.2 er) ∧ Below w.heap.size w w' := by
  have HN := Lib.hid (next_any w r ts h)
  have F2 := fld2
  clear h
  generalize hd ts = t at *
  go_enter Tryd.func46, Tryd.ntmps46
  go_wp2_with fail
  refine HN.out.mono ?_
  rintro e w1 ⟨rfl, k⟩
  have K := Lib.hid k
  clear k
  go_wp2_with fail
  exact ⟨rfl, rfl, K.out⟩
end ParA
end Go.Proofs.YtdalepdpobcpaaaDoor
