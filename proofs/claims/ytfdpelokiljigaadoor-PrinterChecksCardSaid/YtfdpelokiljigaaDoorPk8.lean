/- Texts laid together: PriM; PriJ; ParA; ParB. Their own heads stand before each. -/
import Derived.Test.YtfdpelokiljigaaDoorPk4
import Derived.Test.YtfdpelokiljigaaDoorPk5
import Derived.Test.YtfdpelokiljigaaDoorPk7
import Derived.Deep.DeepCutAuto
import Derived.Test.YtfdpelokiljigaaDoorPk6
import Derived.WalkSmall
import Derived.WalkLawsBesides
import Derived.Laws.ResultCell
/- The printer as plain functions, and the row of texts that join fills. No conditions. -/
namespace Go.Proofs.YtfdpelokiljigaaDoor
open Go Go.RowKit
namespace PriM
open LexM TermM ParM Kit
def litX (x : Lt) : List UInt8 := (if x.1 then [110, 111, 116, 32] else []) ++ textT x.2
def bodyX (l : List Lt) : List UInt8 := Lib.join (l.map litX) [32, 97, 110, 100, 32]
def ruleX (r : Rl) : List UInt8 := textT r.1 ++ (if r.2.isEmpty then [] else [32, 105, 102, 32] ++ bodyX r.2) ++ [46]
def lineX (r : Rl) : List UInt8 := ruleX r ++ [10]
def termsX (l : List Tm) : List UInt8 := Lib.join (l.map textT) [44, 32]
def descX (l : List Rl) : List UInt8 := Lib.join (l.map lineX) []
/-- A text as a string. -/
def bs (l : List UInt8) : ByteArray := ⟨l.toArray⟩
theorem bs_list (l : List UInt8) : (bs l).data.toList = l := by simp [bs]
theorem bs_size (l : List UInt8) : (bs l).size = l.length := by show Array.size _ = _; simp
/-- The row of texts with the first k filled in. -/
def srow (X : List (List UInt8)) (k : Nat) : List Value := (X.take k).map (fun x => Value.string (bs x)) ++ List.replicate (X.length - k) (.string ⟨#[]⟩)
theorem srow_len (X : List (List UInt8)) (k : Nat) (h : k ≤ X.length) : (srow X k).length = X.length := by simp [srow]; omega
theorem srow_get {X : List (List UInt8)} {k : Nat} (h : k < X.length) : (srow X k)[k]? = some (.string ⟨#[]⟩) := by
  unfold srow
  rw [List.getElem?_append_right (by simp; omega)]
  simp [List.getElem?_replicate]
  omega
theorem srow_set {X : List (List UInt8)} {k : Nat} {x : List UInt8} (h : X[k]? = some x) : (srow X k).set k (.string (bs x)) = srow X (k + 1) := by
  have hk := (List.getElem?_eq_some_iff.1 h).1
  unfold srow
  rw [List.set_append_right _ _ (by simp; omega), take_get X k x h, List.map_append, List.append_assoc]
  congr 1
  rw [List.length_map, show (X.take k).length = k by simp; omega, Nat.sub_self, show X.length - k = (X.length - (k + 1)) + 1 by omega, List.replicate_succ, List.set_cons_zero]
  rfl
theorem srow_end (X : List (List UInt8)) : srow X X.length = (X.map bs).map Value.string := by
  unfold srow
  simp
theorem Tryd.infoS : (Tryd.prog.info? 9).map (fun i => (i.zero, i.size, i.bytes)) = some (some (.string ⟨#[]⟩), 1, 16) := by kernel_rfl
theorem make_any (w : World) (X : List (List UInt8)) (n : Nat) (h : X.length = n) (hn : n ≤ 1000000) : ∃ w', (Instr.makeSlice 67 (.int .i64 n) (.int .i64 n)).run Tryd.prog w = .ok (.slice (some ⟨w.heap.size, 0, none⟩) n n) w' ∧ w'.ownsRow w.heap.size 9 1 (.slice (some ⟨w.heap.size, 0, none⟩) n n) n (srow X 0) ∧ w.grownBy w' none := by
  obtain ⟨i, hi, hz, hs, hb⟩ := info_parts Tryd.infoS
  obtain ⟨w', h1, h2, h3⟩ := run_make_full (P := Tryd.prog) w w.heap.size 67 9 i (.string ⟨#[]⟩) 1 Tryd.underlying67 hi hz hs .i64 .i64 n (by rw [hb]; omega) (by unfold maxLen; omega) (Nat.le_refl _)
  refine ⟨w', h1, ?_, h3⟩
  have e : (madeCells (Value.string ⟨#[]⟩).cells (n * 1)).toList = srow X 0 := by
    rw [Nat.mul_one, show (Value.string ⟨#[]⟩).cells = #[.string ⟨#[]⟩] from rfl, toList_madeCells_one]
    simp [srow, h]
  rw [e] at h2
  exact h2
/-- strings.Join over a row of one's own. -/
theorem join_row (X : List (List UInt8)) (n g base : Nat) (sep : ByteArray) (w : World) (h : X.length = n) (hn : n ≤ 1000000) (ho : w.ownsRow base 9 1 (.slice (some ⟨g, 0, none⟩) n n) n (srow X n)) (hz : (Lib.join X sep.data.toList).length ≤ 140737488355328) :
    Calls Tryd.prog 47 #[.slice (some ⟨g, 0, none⟩) n n, .string sep] w fun e w' => e = .returned (.string (bs (Lib.join X sep.data.toList))) ∧ Below w.heap.size w w' := by
  subst h
  have e : (X.map bs).map (·.data.toList) = X := by
    rw [List.map_map]
    conv => rhs; rw [← List.map_id X]
    exact List.map_congr_left (fun x _ => bs_list x)
  have hg := (World.ownsRow.lt ho g rfl).2
  have K := Tryd.strings_Join g 0 X.length (X.map bs) sep w (fun j x hx => ?_) hg (by simp; omega) (by simp) (by rw [e]; exact hz)
  · rw [e, List.length_map] at K
    exact K
  · have hj := (List.getElem?_eq_some_iff.1 hx).1
    rw [List.length_map] at hj
    rw [Nat.zero_add, ho.cellAt j (by omega), srow_end, List.getElem?_map, hx]
    rfl
end PriM
end Go.Proofs.YtfdpelokiljigaaDoor
/- The texts of a list joined: the code's join at terms. Conditions: at most a million terms, texts of at most 10^8 bytes, in all at most 2^47. -/
namespace Go.Proofs.YtfdpelokiljigaaDoor
open Go Go.RowKit
namespace PriJ
open LexM TermM TermI Kit TermN TermU TermT ParM PriM
theorem own_below {w w' : World} {base B : Nat} {e : TypeId} {size n : Nat} {v : Value} {xs : List Value} (h : w.ownsRow base e size v n xs) (hb : Below B w w') (hB : ∀ g, v.ownBlock = some g → g < B) : w'.ownsRow base e size v n xs := by
  refine ⟨h.1, ?_⟩
  rcases h.2 with h | ⟨g, cap, cur, e1, e2, e3, e4⟩
  · exact Or.inl h
  · exact Or.inr ⟨g, cap, cur, e1, e2, (hb.block g (hB g (by rw [e1]; rfl))).trans e3, e4⟩
theorem hmf : ∀ (fn : Fn) (first cap : Array Value) (w : World), (Instr.makeFunc fn first cap).run Tryd.prog w = .ok (.func fn first cap) w := fun _ _ _ _ => rfl
set_option maxRecDepth 100000 in
set_option maxHeartbeats 6400000 in
theorem jterms_any (l : List Tm) (B : Nat) (w : World) (sv : Value) (sep : ByteArray) (hw : Wd w) (hB : B ≤ w.heap.size) (h : SlIn (· < B) w l sv) (hn : l.length ≤ 1000000) (ht : ∀ t ∈ l, (textT t).length ≤ 100000000)
    (hz : (Lib.join (l.map textT) sep.data.toList).length ≤ 140737488355328) :
    Calls Tryd.prog 35 #[sv, .string sep, .func (.func 32) #[] #[]] w fun e w' => e = .returned (.string (bs (Lib.join (l.map textT) sep.data.toList))) ∧ Below w.heap.size w w' := by
  obtain ⟨p, c, rfl, _, hc, hm, hR⟩ := h.row
  have HR := Lib.hid hR
  have HW := Lib.hid hw
  have HB := Lib.hid hB
  have hg1 := hw.1
  obtain ⟨wm, M, O, G⟩ := make_any w (l.map textT) l.length (by simp) hn
  have O0 := Lib.hid O
  have B0 := Lib.hid ((Below.refl w.heap.size w).grown G (Nat.le_refl _) (fun k h => by cases h))
  have RG := Lib.hid (fun k (h : k < l.length) => srow_get (X := l.map textT) (k := k) (by simpa using h))
  have RS := Lib.hid (fun k x (h : (l.map textT)[k]? = some x) => srow_set h)
  have JN := Lib.hid (fun (w' : World) (ho : w'.ownsRow w.heap.size 9 1 (.slice (some ⟨w.heap.size, 0, none⟩) l.length l.length) l.length (srow (l.map textT) l.length)) => join_row (l.map textT) l.length w.heap.size w.heap.size sep w' (by simp) hn ho hz)
  have TX := Lib.hid (fun k t (h : l[k]? = some t) (w' : World) (sv : Value) (hw : Wd w') (hb : B ≤ w'.heap.size) (hs : SlIn (· < B) w' t.args sv) => text_any t B w' sv hw hb hs (ht t (List.mem_of_getElem? h)))
  have GB : w.heap.size < wm.heap.size := by
    have := World.ownsRow.lt O0.out w.heap.size rfl
    omega
  have LT := Lib.hid (fun k t (h : l[k]? = some t) => show (l.map textT)[k]? = some (textT t) by rw [List.getElem?_map, h]; rfl)
  generalize Lib.join (l.map textT) sep.data.toList = J at *
  have SZ := Lib.hid (Nat.le_refl w.heap.size)
  clear O G hw hB hR h ht hz
  generalize l.map textT = X at *
  generalize hlm : l.length = m at *
  have HM := Lib.hid hlm
  clear hlm
  generalize hg0 : w.heap.size = g0 at *
  go_enter Tryd.func35, Tryd.ntmps35
  go_wp2_with fail
  go_loopw [15] (fun i wL => ∃ k : Nat, k ≤ m ∧ i = .int .i64 k ∧ Hid (wL.ownsRow g0 9 1 (.slice (some ⟨g0, 0, none⟩) m m) m (srow X k)) ∧ Hid (Below g0 w wL)) (fun i _ => m - (intOf i).toNat)
  case atStart => exact ⟨0, by omega, rfl, O0, B0⟩
  case round =>
    obtain ⟨k, hk, rfl, hO, hD⟩ := hrel
    by_cases hlt : k < m
    · obtain ⟨t, b, o, q, d, ht, rfl, hb, c1, c2, hs, hts⟩ := (Row.deep HR.out hD.out HB.out) k (by rw [HM.out]; exact hlt)
      have x1 := (hO.out.cellAt k (by omega)).trans (RG.out k hlt)
      have x2 := hO.out.frozenAt k
      have T1 := Lib.hid (TX.out k t ht)
      have S1 : Hid ((srow X k).set k (.string ⟨(textT t).toArray⟩) = srow X (k + 1)) := Lib.hid (RS.out k _ (LT.out k t ht))
      have hsz := hD.out.size
      have gl := (World.ownsRow.lt hO.out g0 rfl).2
      have HS := Lib.hid hs
      clear ht hs hts
      go_wp2_with fail
      refine (T1.out _ _ (HW.out.below (hD.out.alloc (by omega) _) hg1) (by have := HB.out; simp; omega) (HS.out.gr (Gr.alloc _ _) (by have := HB.out; omega))).mono ?_
      rintro e w5 ⟨rfl, hd5⟩
      have O5 := Lib.hid (own_below (hO.out.alloc _) hd5 (fun g h => by cases h; simp; omega))
      have D5 := Lib.hid ((hD.out.alloc (by omega) _).trans (hd5.mono (by simp; omega)))
      have y1 := (O5.out.cellAt k (by omega)).trans (RG.out k hlt)
      have y2 := O5.out.frozenAt k
      have ST := Lib.hid (O5.out.stored k (.string ⟨(textT t).toArray⟩))
      have hsz5 := D5.out.size
      clear hd5 x1 x2 c1 c2
      generalize textT t = xt at *
      go_wp2_with fail
      go_roundw
      case rel =>
        refine ⟨k + 1, by omega, by go_num, ?_, ?_⟩
        · have h := ST.out.1
          rw [S1.out] at h
          exact Lib.hid h
        · exact Lib.hid (D5.out.grown ST.out.2 (by omega) (fun k h => by cases h; exact Nat.le_refl _))
      case measure => simp [intOf] <;> omega
    · obtain rfl : k = m := by omega
      have J1 := Lib.hid (JN.out wr hO.out)
      go_wp2_with fail
      refine J1.out.mono ?_
      rintro e w5 ⟨rfl, hd5⟩
      have D5 := Lib.hid (hD.out.trans (hd5.mono (by have := hD.out.size; omega)))
      clear hd5
      go_wp2_with fail
      go_ret
      exact ⟨rfl, D5.out⟩
end PriJ
end Go.Proofs.YtfdpelokiljigaaDoor
/- The reader of tokens in memory; what a call may turn: the reader's cell and new blocks. No conditions. -/
namespace Go.Proofs.YtfdpelokiljigaaDoor
open Go Go.RowKit
namespace ParA
open Kit LexM TermM TermI TermU LexP ParM
/-- Of what was there only block r may have turned. -/
abbrev Ch (r : Nat) (a b : World) : Prop := a.grownBy b (some r)
theorem Ch.refl (r : Nat) (w : World) : Ch r w w := ⟨rfl, rfl, rfl, Nat.le_refl _, fun _ _ _ => rfl⟩
theorem Ch.trans {r : Nat} {a b c : World} (h : Ch r a b) (k : Ch r b c) : Ch r a c :=
  ⟨World.grownBy.os k |>.trans h.os, k.tape.trans h.tape, k.output.trans h.output, Nat.le_trans h.size k.size, fun i hi hr => (k.block i (Nat.lt_of_lt_of_le hi h.size) hr).trans (h.block i hi hr)⟩
theorem Ch.of {r : Nat} {a b : World} (h : Below a.heap.size a b) : Ch r a b := ⟨h.os, h.tape, h.output, h.size, fun i hi _ => h.block i hi⟩
theorem Ch.below {r : Nat} {a b c : World} (h : Ch r a b) (k : Below b.heap.size b c) : Ch r a c := h.trans (Ch.of k)
theorem Ch.put {r : Nat} {a b : World} (h : Ch r a b) {p : Addr} (hp : p.block = r ∨ a.heap.size ≤ p.block) (u : Value) : Ch r a (b.setCell p u) := by
  refine ⟨h.os, h.tape, h.output, Nat.le_trans h.size (by simp [World.setCell]), fun i hi hr => (Below.heap_setCell _ _ _ _ (fun e => ?_)).trans (h.block i hi hr)⟩
  rcases hp with hp | hp
  · exact hr (by rw [e, hp])
  · omega
theorem Ch.alloc {r : Nat} {a b : World} (h : Ch r a b) (o : Obj) : Ch r a (b.alloc o) := h.below (below_alloc b o)
theorem Ch.grown {r : Nat} {a b c : World} {row : Option Nat} (h : Ch r a b) (hg : b.grownBy c row) (hr : ∀ k, row = some k → a.heap.size ≤ k) : Ch r a c :=
  ⟨hg.os.trans h.os, hg.tape.trans h.tape, hg.output.trans h.output, Nat.le_trans h.size hg.size, fun i hi hne => (hg.block i (Nat.lt_of_lt_of_le hi h.size) (fun e => by have := hr i e.symm; omega)).trans (h.block i hi hne)⟩
theorem Ch.cell {r : Nat} {a b : World} (h : Ch r a b) {g o : Nat} (hg : g < a.heap.size) (hne : g ≠ r) : b.cell? ⟨g, o, none⟩ = a.cell? ⟨g, o, none⟩ :=
  World.cell?_of_block (w := a) (a := ⟨g, o, none⟩) (h.block g hg (fun e => hne (Option.some.inj e)))
theorem Ch.has {r : Nat} {a b : World} {g : Nat} {cs : Array Value} (h : Ch r a b) (k : Has a g cs) (hne : g ≠ r) : Has b g cs := by
  have hl := k.lt
  obtain ⟨t, k⟩ := k
  exact ⟨t, (h.block g hl (fun e => hne (Option.some.inj e))).trans k⟩
theorem Ch.toBelow {r B : Nat} {a b : World} (h : Ch r a b) (hB : B ≤ r) (hs : B ≤ a.heap.size) : Below B a b :=
  ⟨h.os, h.tape, h.output, h.size, fun i hi => h.block i (by omega) (fun e => by have := Option.some.inj e; omega)⟩
/-- Terms that lie in new blocks stay. -/
theorem slin_ch {r lo : Nat} {a b : World} {l : List Tm} {v : Value} (h : SlIn (fun k => lo ≤ k ∧ k < a.heap.size) a l v) (g : Ch r a b) (hr : r < lo) : SlIn (fun k => lo ≤ k ∧ k < b.heap.size) b l v :=
  (h.frame fun k _ hk => g.cell hk.2 (by omega)).weaken fun k hk => ⟨hk.1, Nat.lt_of_lt_of_le hk.2 g.size⟩
theorem own_ch {r base : Nat} {a b : World} {L : List (Tm × Value)} {v : Value} (h : Own base a L v) (g : Ch r a b) (hr : r < base) : Own base b L v := by
  obtain ⟨h1, ok, h2, h3⟩ := h
  have hl := h1.lt
  refine ⟨⟨h1.1, ?_⟩, ok, fun b hk => ⟨(h2 b hk).1, Nat.lt_of_lt_of_le (h2 b hk).2.1 g.size, (h2 b hk).2.2⟩, fun x hx => ⟨(h3 x hx).1.frame fun b o hk => g.cell (h2 b hk).2.1 (by have := (h2 b hk).1; omega), (h3 x hx).2⟩⟩
  rcases h1.2 with h | ⟨k, cap, cur, e1, e2, e3, e4⟩
  · exact Or.inl h
  · exact Or.inr ⟨k, cap, cur, e1, e2, (g.block k (hl k (by rw [e1]; rfl)).2 (fun e => by have := Option.some.inj e; omega)).trans e3, e4⟩
/-- The reader at block r has these tokens left. -/
def Rd (w : World) (r : Nat) (ts : List GTok) : Prop :=
  Wf ts ∧ (∀ t ∈ ts, t.2.1.size ≤ maxLen) ∧ ∃ g o c, Has w r #[.slice (some ⟨g, o, none⟩) ts.length c] ∧ ts.length ≤ c ∧ c ≤ maxLen ∧ g < r ∧ Toks w g o ts
theorem toks_ch {r g o : Nat} {a b : World} {ts : List GTok} (h : Toks a g o ts) (k : Ch r a b) (hne : g ≠ r) : Toks b g o ts :=
  ⟨Nat.lt_of_lt_of_le h.1 k.size, fun i t hi => ⟨(k.cell h.1 hne).trans (h.2 i t hi).1, (k.cell h.1 hne).trans (h.2 i t hi).2.1, (k.cell h.1 hne).trans (h.2 i t hi).2.2⟩⟩
theorem Rd.below {w w' : World} {r : Nat} {ts : List GTok} (h : Rd w r ts) (k : Below w.heap.size w w') : Rd w' r ts := by
  obtain ⟨h1, h2, g, o, c, h3, h4, h5, h6, h7⟩ := h
  exact ⟨h1, h2, g, o, c, h3.step0 k, h4, h5, h6, h7.below k h7.1⟩
theorem Rd.alloc {w : World} {r : Nat} {ts : List GTok} (h : Rd w r ts) (o : Obj) : Rd (w.alloc o) r ts := h.below (below_alloc w o)
theorem Rd.far {w : World} {r : Nat} {ts : List GTok} (h : Rd w r ts) {p : Addr} (hp : r < p.block) (u : Value) : Rd (w.setCell p u) r ts := by
  obtain ⟨h1, h2, g, o, c, h3, h4, h5, h6, h7⟩ := h
  have hc : ∀ k off, k < p.block → (w.setCell p u).cell? ⟨k, off, none⟩ = w.cell? ⟨k, off, none⟩ := fun k off hk => World.cell?_of_block (w := w) (a := ⟨k, off, none⟩) (Below.heap_setCell _ _ _ _ (by show k ≠ p.block; omega))
  exact ⟨h1, h2, g, o, c, h3.far (by omega) u, h4, h5, h6, by simpa [World.setCell] using h7.1, fun i t hi => ⟨(hc _ _ (by omega)).trans (h7.2 i t hi).1, (hc _ _ (by omega)).trans (h7.2 i t hi).2.1, (hc _ _ (by omega)).trans (h7.2 i t hi).2.2⟩⟩
theorem Rd.grown {w w' : World} {r : Nat} {ts : List GTok} {row : Option Nat} (h : Rd w r ts) (hg : w.grownBy w' row) (hr : ∀ k, row = some k → r < k) : Rd w' r ts := by
  obtain ⟨h1, h2, g, o, c, h3, h4, h5, h6, h7⟩ := h
  have hl := h3.lt
  obtain ⟨t, h3⟩ := h3
  have hc : ∀ off, w'.cell? ⟨g, off, none⟩ = w.cell? ⟨g, off, none⟩ := fun off => World.cell?_of_block (w := w) (a := ⟨g, off, none⟩) (hg.block g h7.1 (fun e => by have := hr g e.symm; omega))
  exact ⟨h1, h2, g, o, c, ⟨t, (hg.block r hl (fun e => by have := hr r e.symm; omega)).trans h3⟩, h4, h5, h6, Nat.lt_of_lt_of_le h7.1 hg.size, fun i u hi => ⟨(hc _).trans (h7.2 i u hi).1, (hc _).trans (h7.2 i u hi).2.1, (hc _).trans (h7.2 i u hi).2.2⟩⟩
theorem Rd.wf {w : World} {r : Nat} {ts : List GTok} (h : Rd w r ts) : Wf ts := h.1
theorem Rd.lt {w : World} {r : Nat} {ts : List GTok} (h : Rd w r ts) : r < w.heap.size := by
  obtain ⟨_, _, _, _, _, h3, _⟩ := h; exact h3.lt
theorem Rd.nm {w : World} {r : Nat} {ts : List GTok} (h : Rd w r ts) : (hd ts).2.1.size ≤ maxLen := h.2.1 _ (List.mem_of_getElem? (hd_get h.1.ne))
abbrev PE (a er : Int) : List PanicEntry := [{ v := .iface 81 (.agg #[.int .i64 a, .int .i64 er]), recovered := false }]
set_option maxHeartbeats 400000 in
theorem next_any (w : World) (r : Nat) (ts : List GTok) (h : Rd w r ts) :
    Calls Tryd.prog 61 #[.pointer (some ⟨r, 0, none⟩)] w fun e w' => e = .returned (.agg #[.int .i64 (hd ts).1, .string (hd ts).2.1, .int .i64 (hd ts).2.2]) ∧ Below w.heap.size w w' := by
  obtain ⟨h1, _, g, o, c, h3, h4, h5, h6, h7⟩ := h
  have hlen := h1.ne
  obtain ⟨x1, x2, x3⟩ := h7.2 0 _ (hd_get hlen)
  have hc := h3.cell 0
  have hz : w.heap.size = w.heap.size := rfl
  have hlr := h3.lt
  have hlg := h7.1
  rw [Nat.zero_mul, Nat.add_zero] at x1 x2 x3
  simp only [List.getElem?_toArray, List.getElem?_cons_zero] at hc
  generalize hd ts = t at *
  generalize ts.length = n at *
  have hn : (0 : Int) < n := by omega
  clear h1 h3 h7 hz
  go_enter Tryd.func61, Tryd.ntmps61
  go_wp2_with fail
  refine bodyPost_ret (v := .agg #[.int .i64 t.1, .string t.2.1, .int .i64 t.2.2]) (by simp [results, Tryd.results61, go_sem]) rfl ⟨rfl, ?_⟩
  exact below_alloc w _
theorem fld0 : ∀ (a b c : Value) (W : World), (Instr.field 76 (.agg #[a, b, c]) 0).run Tryd.prog W = .ok a W := fun _ _ _ _ => by kernel_rfl
theorem fld1 : ∀ (a b c : Value) (W : World), (Instr.field 76 (.agg #[a, b, c]) 1).run Tryd.prog W = .ok b W := fun _ _ _ _ => by kernel_rfl
theorem fld2 : ∀ (a b c : Value) (W : World), (Instr.field 76 (.agg #[a, b, c]) 2).run Tryd.prog W = .ok c W := fun _ _ _ _ => by kernel_rfl
set_option maxHeartbeats 400000 in
theorem fail_no (w : World) (r : Nat) (er : Int) :
    Calls Tryd.prog 60 #[.pointer (some ⟨r, 0, none⟩), .bool false, .int .i64 er] w fun e w' => e = .returned (.tuple #[]) ∧ w = w' := by
  go_enter Tryd.func60, Tryd.ntmps60
  go_wp2_with fail
  go_end0
  exact ⟨rfl, rfl⟩
set_option maxRecDepth 100000 in
set_option maxHeartbeats 400000 in
theorem fail_yes (w : World) (r : Nat) (er : Int) (ts : List GTok) (h : Rd w r ts) :
    Calls Tryd.prog 60 #[.pointer (some ⟨r, 0, none⟩), .bool true, .int .i64 er] w fun e w' => e = .panicked (PE (hd ts).2.2 er) ∧ Below w.heap.size w w' := by
  have HN := Lib.hid (next_any w r ts h)
  have F2 := fld2
  clear h
  generalize hd ts = t at *
  go_enter Tryd.func60, Tryd.ntmps60
  go_wp2_with fail
  refine HN.out.mono ?_
  rintro e w1 ⟨rfl, k⟩
  have K := Lib.hid k
  clear k
  go_wp2_with fail
  exact ⟨rfl, rfl, K.out⟩
end ParA
end Go.Proofs.YtfdpelokiljigaaDoor
/- The reader's small methods: pass, accept, expect, and what begins with the next token. No conditions but a reader in memory. -/
namespace Go.Proofs.YtfdpelokiljigaaDoor
open Go Go.RowKit
namespace ParB
open Kit LexM TermM TermI TermU LexP ParM ParA
theorem size3 (w : World) : (sizeOf (Tryd.prog.elem 72)).run Tryd.prog w = .ok 3 w := by kernel_rfl
theorem elemK : Tryd.prog.underlying 72 = some (.slice (Tryd.prog.elem 72)) := by kernel_rfl
theorem sl_one (g o n c : Nat) (h : 2 ≤ n) (hc : n ≤ c) (W : World) : (Instr.slice 72 (.slice (some ⟨g, o, none⟩) n c) (some (.int .i64 1)) none none).run Tryd.prog W = .ok (.slice (some ⟨g, o + 3, none⟩) (n - 1) (c - 1)) W := by
  rw [run_slice_l W 72 (some ⟨g, o, none⟩) n c elemK .i64 1 (by omega) (by omega), size3]
  simp only [Result.andThen, sliced, Option.map_some]
  rw [if_neg (by simp; omega), show ((1 : Int).toNat * 3) = 3 from rfl, addr_add]
  rfl
theorem toks_tail {w : World} {g o : Nat} {ts : List GTok} (h : Toks w g o ts) : Toks w g (o + 3) ts.tail := by
  refine ⟨h.1, fun i t hi => ?_⟩
  have h2 := h.2 (i + 1) t (by rw [← List.getElem?_tail]; exact hi)
  rw [show o + 3 + i * 3 = o + (i + 1) * 3 by omega]
  exact h2
/-- What pass leaves. -/
def Psd (r : Nat) (w : World) (ts : List GTok) (e : Ending) (w' : World) : Prop :=
  e = .returned (.agg #[.int .i64 (hd ts).1, .string (hd ts).2.1, .int .i64 (hd ts).2.2]) ∧ Rd w' r ts.tail ∧ Ch r w w'
set_option maxRecDepth 100000 in
set_option maxHeartbeats 800000 in
theorem pass_any (w : World) (r : Nat) (ts : List GTok) (h : Rd w r ts) (h1 : (hd ts).1 ≠ 0 ∨ (hd ts).2.1 ≠ ⟨#[]⟩) :
    Calls Tryd.prog 86 #[.pointer (some ⟨r, 0, none⟩)] w (Psd r w ts) := by
  have HN := Lib.hid (next_any (w.alloc (.cells #[.int .i64 0, .string ⟨#[]⟩, .int .i64 0] 76)) r ts (h.alloc _))
  obtain ⟨hw, hm, g, o, c, h3, h4, h5, h6, h7⟩ := h
  obtain ⟨hw2, hl⟩ := hw.tail h1
  have SL := sl_one g o ts.length c hl h4
  have TT := Lib.hid (toks_tail h7)
  have H3 := Lib.hid h3
  have HW2 := Lib.hid hw2
  have HT : Hid (ts.tail.length = ts.length - 1) := Lib.hid (by simp)
  have HM : Hid (∀ t ∈ ts.tail, t.2.1.size ≤ maxLen) := Lib.hid (fun t ht => hm t (List.mem_of_mem_tail ht))
  have hlr := h3.lt
  have hlg := h7.1
  unfold Psd
  generalize hd ts = t at *
  generalize ts.tail = ts2 at *
  generalize ts.length = n at *
  clear h3 h7 hw hw2 hm h1
  go_enter Tryd.func86, Tryd.ntmps86
  go_wp2_with fail
  refine HN.out.mono ?_
  rintro e w1 ⟨rfl, k⟩
  have H0 : Has w1 w.heap.size #[.int .i64 0, .string ⟨#[]⟩, .int .i64 0] := Has.made k
  have H4 := H3.out.step k
  have T4 := (TT.out.below (below_alloc w _) hlg).below k (by rw [World.size_alloc]; omega)
  have T4' := Lib.hid T4
  have G4 := Lib.hid ((below_alloc w _).trans (k.mono (by simp)))
  have hz0 := H0.lt
  have hr1 := H4.lt
  have hc := H4.cell 0
  simp only [List.getElem?_toArray, List.getElem?_cons_zero] at hc
  have hf := H4.free 0
  have H4' := Lib.hid H4
  have H0' := Lib.hid H0
  have a0 := H0.cell 0
  have a1 := H0.cell 1
  have a2 := H0.cell 2
  have f0 := H0.free 0
  have f1 := H0.free 1
  have f2 := H0.free 2
  simp only [List.getElem?_toArray, List.getElem?_cons_zero, List.getElem?_cons_succ] at a0 a1 a2
  clear k H4 H0 T4 HN
  go_wp2_with fail
  have R1 : Rd (w1.setCell ⟨r, 0, none⟩ (.slice (some ⟨g, o + 3, none⟩) (n - 1) (c - 1))) r ts2 := by
    refine ⟨HW2.out, HM.out, g, o + 3, c - 1, ?_, by rw [HT.out]; omega, by omega, h6, by simpa [World.setCell] using T4'.out.1, fun i u hi => ?_⟩
    · rw [HT.out]
      exact H4'.out.set 0 _
    · have hcc : ∀ off, (w1.setCell ⟨r, 0, none⟩ (.slice (some ⟨g, o + 3, none⟩) (n - 1) (c - 1))).cell? ⟨g, off, none⟩ = w1.cell? ⟨g, off, none⟩ := fun off => World.cell?_of_block (w := w1) (a := ⟨g, off, none⟩) (Below.heap_setCell _ _ _ _ (by show g ≠ r; omega))
      exact ⟨(hcc _).trans (T4'.out.2 i u hi).1, (hcc _).trans (T4'.out.2 i u hi).2.1, (hcc _).trans (T4'.out.2 i u hi).2.2⟩
  refine bodyPost_ret (v := .agg #[.int .i64 t.1, .string t.2.1, .int .i64 t.2.2]) (by simp [results, Tryd.results86, go_sem, a0, a1, a2, hz0]) rfl ⟨rfl, ?_, ?_⟩
  · exact (((R1.far (by exact hlr) _).far (by exact hlr) _).far (by exact hlr) _).alloc _
  · exact (((((Ch.of G4.out).put (Or.inl rfl) _).put (Or.inr (by exact Nat.le_refl _)) _).put (Or.inr (by exact Nat.le_refl _)) _).put (Or.inr (by exact Nat.le_refl _)) _).alloc _
theorem lit_ne : sOpen ≠ ⟨#[]⟩ ∧ sShut ≠ ⟨#[]⟩ ∧ sComma ≠ ⟨#[]⟩ ∧ sDot ≠ ⟨#[]⟩ ∧ sIf ≠ ⟨#[]⟩ ∧ sAnd ≠ ⟨#[]⟩ ∧ sNot ≠ ⟨#[]⟩ := by decide
set_option maxRecDepth 100000 in
set_option maxHeartbeats 800000 in
theorem acc_no (w : World) (r : Nat) (ts : List GTok) (s : ByteArray) (h : Rd w r ts) (hb : isB (hd ts) s = false) :
    Calls Tryd.prog 65 #[.pointer (some ⟨r, 0, none⟩), .string s] w fun e w' => e = .returned (.bool false) ∧ Below w.heap.size w w' := by
  have HN := Lib.hid (next_any w r ts h)
  have F1 := fld1
  unfold isB at hb
  have hb2 : ((hd ts).2.1.toList != s.toList) = true := by rw [bne, hb]; rfl
  generalize hd ts = t at *
  clear h
  go_enter Tryd.func65, Tryd.ntmps65
  go_wp2_with fail
  refine HN.out.mono ?_
  rintro e w1 ⟨rfl, k⟩
  have K := Lib.hid k
  clear k HN
  go_wp2_with fail
  go_ret
  exact ⟨rfl, K.out⟩
set_option maxRecDepth 100000 in
set_option maxHeartbeats 800000 in
theorem acc_yes (w : World) (r : Nat) (ts : List GTok) (s : ByteArray) (h : Rd w r ts) (hs : s ≠ ⟨#[]⟩) (hb : isB (hd ts) s = true) :
    Calls Tryd.prog 65 #[.pointer (some ⟨r, 0, none⟩), .string s] w fun e w' => e = .returned (.bool true) ∧ Rd w' r ts.tail ∧ Ch r w w' := by
  have HN := Lib.hid (next_any w r ts h)
  have HP := Lib.hid (fun w1 (k : Below w.heap.size w w1) => pass_any w1 r ts (h.below k) (Or.inr (isB_ne hb hs)))
  have F1 := fld1
  unfold isB at hb
  have hb2 : ((hd ts).2.1.toList != s.toList) = false := by rw [bne, hb]; rfl
  unfold Psd at HP
  generalize hd ts = t at *
  generalize ts.tail = ts2 at *
  clear h hs
  go_enter Tryd.func65, Tryd.ntmps65
  go_wp2_with fail
  refine HN.out.mono ?_
  rintro e w1 ⟨rfl, k⟩
  have HP2 := Lib.hid (HP.out w1 k)
  have K := Lib.hid (Ch.of (r := r) k)
  clear k HN HP
  go_wp2_with fail
  refine HP2.out.mono ?_
  rintro e w2 ⟨rfl, k1, k2⟩
  have K1 := Lib.hid k1
  have K2 := Lib.hid (K.out.trans k2)
  clear k1 k2 HP2
  go_wp2_with fail
  go_ret
  exact ⟨rfl, K1.out, K2.out⟩
set_option maxRecDepth 100000 in
set_option maxHeartbeats 800000 in
theorem exp_no (w : World) (r : Nat) (ts : List GTok) (s : ByteArray) (h : Rd w r ts) (hb : isB (hd ts) s = false) :
    Calls Tryd.prog 67 #[.pointer (some ⟨r, 0, none⟩), .string s] w fun e w' => e = .panicked (PE (hd ts).2.2 1) ∧ Ch r w w' := by
  have HN := Lib.hid (acc_no w r ts s h hb)
  have HF := Lib.hid (fun w1 (k : Below w.heap.size w w1) => fail_yes w1 r 1 ts (h.below k))
  generalize hd ts = t at *
  clear h hb
  go_enter Tryd.func67, Tryd.ntmps67
  go_wp2_with fail
  refine HN.out.mono ?_
  rintro e w1 ⟨rfl, k⟩
  have HF2 := Lib.hid (HF.out w1 k)
  have K := Lib.hid (Ch.of (r := r) k)
  clear k HN HF
  go_wp2_with fail
  refine HF2.out.mono ?_
  rintro e w2 ⟨rfl, k2⟩
  have K2 := Lib.hid (K.out.below k2)
  clear k2 HF2
  go_wp2_with fail
  exact ⟨rfl, rfl, K2.out⟩
set_option maxRecDepth 100000 in
set_option maxHeartbeats 800000 in
theorem exp_yes (w : World) (r : Nat) (ts : List GTok) (s : ByteArray) (h : Rd w r ts) (hs : s ≠ ⟨#[]⟩) (hb : isB (hd ts) s = true) :
    Calls Tryd.prog 67 #[.pointer (some ⟨r, 0, none⟩), .string s] w fun e w' => e = .returned (.tuple #[]) ∧ Rd w' r ts.tail ∧ Ch r w w' := by
  have HN := Lib.hid (acc_yes w r ts s h hs hb)
  have HF := Lib.hid (fun w1 => fail_no w1 r 1)
  generalize ts.tail = ts2 at *
  clear h hb hs
  go_enter Tryd.func67, Tryd.ntmps67
  go_wp2_with fail
  refine HN.out.mono ?_
  rintro e w1 ⟨rfl, k1, k2⟩
  have K1 := Lib.hid k1
  have K2 := Lib.hid k2
  clear k1 k2 HN
  go_wp2_with fail
  refine (HF.out _).mono ?_
  rintro e w2 ⟨rfl, rfl⟩
  go_wp2_with fail
  go_end0
  exact ⟨rfl, K1.out, K2.out⟩
set_option maxRecDepth 100000 in
set_option maxHeartbeats 800000 in
theorem batom_any (w : World) (r : Nat) (ts : List GTok) (h : Rd w r ts) :
    Calls Tryd.prog 62 #[.pointer (some ⟨r, 0, none⟩)] w fun e w' => e = .returned (.bool (atomB (hd ts))) ∧ Below w.heap.size w w' := by
  have HN := Lib.hid (next_any w r ts h)
  have F0 := fld0
  have HR : Hid (atomB (hd ts) = ((hd ts).1 == 1)) := Lib.hid rfl
  generalize hd ts = t at *
  generalize atomB t = R at *
  clear h
  go_enter Tryd.func62, Tryd.ntmps62
  go_wp2_with fail
  refine HN.out.mono ?_
  rintro e w1 ⟨rfl, k⟩
  have K := Lib.hid k
  clear k HN
  go_wp2_with fail
  go_ret
  exact ⟨ret_bool HR.out.symm, K.out⟩
set_option maxRecDepth 100000 in
set_option maxHeartbeats 800000 in
theorem bterm_any (w : World) (r : Nat) (ts : List GTok) (h : Rd w r ts) :
    Calls Tryd.prog 106 #[.pointer (some ⟨r, 0, none⟩)] w fun e w' => e = .returned (.bool (begB (hd ts))) ∧ Below w.heap.size w w' := by
  have HN := Lib.hid (next_any w r ts h)
  have F0 := fld0
  have HR : Hid (begB (hd ts) = ((hd ts).1 == 1 || ((hd ts).1 == 2 || (hd ts).1 == 3))) := Lib.hid rfl
  generalize hd ts = t at *
  generalize begB t = R at *
  clear h
  obtain ⟨b1, h1⟩ : ∃ b, (t.1 == 1) = b := ⟨_, rfl⟩
  obtain ⟨b2, h2⟩ : ∃ b, (t.1 == 2) = b := ⟨_, rfl⟩
  obtain ⟨b3, h3⟩ : ∃ b, (t.1 == 3) = b := ⟨_, rfl⟩
  rw [h1, h2, h3] at HR
  cases b1 <;> cases b2
  all_goals
    go_enter Tryd.func106, Tryd.ntmps106
    go_wp2_with fail
    refine HN.out.mono ?_
    rintro e w1 ⟨rfl, k⟩
    have K := Lib.hid k
    clear k
    go_wp2_with fail
    go_ret
    exact ⟨ret_bool (by rw [HR.out]; simp), K.out⟩
set_option maxRecDepth 100000 in
set_option maxHeartbeats 800000 in
theorem blit_any (w : World) (r : Nat) (ts : List GTok) (h : Rd w r ts) :
    Calls Tryd.prog 88 #[.pointer (some ⟨r, 0, none⟩)] w fun e w' => e = .returned (.bool (atomB (hd ts) || isB (hd ts) sNot)) ∧ Below w.heap.size w w' := by
  have HN := Lib.hid (fun w1 (k : Below w.heap.size w w1) => next_any w1 r ts (h.below k))
  have HA := Lib.hid (batom_any w r ts h)
  have F1 := fld1
  have HR : Hid (isB (hd ts) sNot = ((hd ts).2.1.toList == (⟨#[110, 111, 116]⟩ : ByteArray).toList)) := Lib.hid rfl
  generalize hd ts = t at *
  generalize isB t sNot = R at *
  generalize atomB t = b1 at *
  clear h
  cases b1
  · go_enter Tryd.func88, Tryd.ntmps88
    go_wp2_with fail
    refine HA.out.mono ?_
    rintro e w1 ⟨rfl, k⟩
    have HN2 := Lib.hid (HN.out w1 k)
    have K := Lib.hid k
    clear k HN HA
    go_wp2_with fail
    refine HN2.out.mono ?_
    rintro e w2 ⟨rfl, k⟩
    have K2 := Lib.hid (next0 K.out k)
    clear k
    go_wp2_with fail
    go_ret
    exact ⟨ret_bool (by rw [HR.out]; simp), K2.out⟩
  · go_enter Tryd.func88, Tryd.ntmps88
    go_wp2_with fail
    refine HA.out.mono ?_
    rintro e w1 ⟨rfl, k⟩
    have K := Lib.hid k
    clear k HN HA
    go_wp2_with fail
    go_ret
    exact ⟨ret_bool (by simp), K.out⟩
end ParB
end Go.Proofs.YtfdpelokiljigaaDoor
