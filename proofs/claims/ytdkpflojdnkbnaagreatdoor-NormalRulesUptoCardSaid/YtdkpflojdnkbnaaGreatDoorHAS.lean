/- Texts laid together: LigY; LigZ; UnqA. Their own heads stand before each. -/
import Derived.Test.YtdkpflojdnkbnaaGreatDoorHAQ
import Derived.Test.YtdkpflojdnkbnaaGreatDoorHAO
import Derived.Test.YtdkpflojdnkbnaaGreatDoorHAP
import Derived.Test.YtdkpflojdnkbnaaGreatDoorHAH
import Derived.Deep.RegionLaw
import Derived.WalkSpells
import Derived.Test.YtdkpflojdnkbnaaGreatDoorHAR
/- One call of the closure of gameplayerplain.Light: an atom is added to the known ones unless it is known or too deep. Conditions: a good term whose key is short; at most ten million atoms. -/
namespace Go.Proofs.YtdkpflojdnkbnaaGreatDoor
open Go Go.RowKit Go.Maps Go.WideMaps
namespace LigY
open Kit LexM TermM TermI TermN TermU TermE UniM UniK UniA UniD UniE UniG UniR LigM LigP LigG LigD LigQ LigE
/-- What the closure sees: the map of keys and the atoms, in the blocks behind A. -/
structure St (N K Z A : Nat) (w : World) (L : List (Tm × Value)) (M : List ByteArray) (av : Value) : Prop where
  known : Has w (A + 2) #[.map (some (A + 1))]
  cell : Has w (A + 3) #[av]
  own : OwnA (· < A) (A + 4) w L av
  map : w.ownsMap Tryz.prog 9 (plainElem (H := Unit) Tryz.prog 4) (A + 1) L.length (Dof M)
  keys : ∀ x ∈ M, x.size ≤ maxLen
  good : ∀ x ∈ L, GT N K Z x.1
/-- What stays: all blocks but some, and what came before. -/
structure Lt (ex : Nat → Prop) (a b : World) : Prop where
  os : b.os = a.os
  tape : b.tape = a.tape
  output : b.output = a.output
  size : a.heap.size ≤ b.heap.size
  block : ∀ i, i < a.heap.size → ¬ ex i → b.heap[i]? = a.heap[i]?
section
variable {ex : Nat → Prop} {a b c : World}
theorem Lt.of (h : Below a.heap.size a b) : Lt ex a b := ⟨h.os, h.tape, h.output, h.size, fun i hi _ => h.block i hi⟩
theorem Lt.trans (h : Lt ex a b) (k : Lt ex b c) : Lt ex a c := ⟨k.os.trans h.os, k.tape.trans h.tape, k.output.trans h.output, Nat.le_trans h.size k.size, fun i hi hn => (k.block i (Nat.lt_of_lt_of_le hi h.size) hn).trans (h.block i hi hn)⟩
theorem Lt.below (h : Lt ex a b) (k : Below b.heap.size b c) : Lt ex a c := h.trans (Lt.of k)
theorem Lt.grown {row : Option Nat} (h : Lt ex a b) (hg : b.grownBy c row) (hr : ∀ k, row = some k → ex k ∨ a.heap.size ≤ k) : Lt ex a c :=
  ⟨hg.os.trans h.os, hg.tape.trans h.tape, hg.output.trans h.output, Nat.le_trans h.size hg.size, fun i hi hn => (hg.block i (Nat.lt_of_lt_of_le hi h.size) (fun e => by rcases hr i e.symm with h | h; exact hn h; omega)).trans (h.block i hi hn)⟩
theorem Lt.put (h : Lt ex a b) {p : Addr} (hp : ex p.block ∨ a.heap.size ≤ p.block) (u : Value) : Lt ex a (b.setCell p u) :=
  ⟨h.os, h.tape, h.output, Nat.le_trans h.size (by simp [World.setCell]), fun i hi hn => (Below.heap_setCell _ _ _ _ (fun e => by subst e; rcases hp with h | h; exact hn h; omega)).trans (h.block i hi hn)⟩
theorem Lt.cell (h : Lt ex a b) {g o : Nat} (hg : g < a.heap.size) (hn : ¬ ex g) : b.cell? ⟨g, o, none⟩ = a.cell? ⟨g, o, none⟩ := World.cell?_of_block (w := a) (a := ⟨g, o, none⟩) (h.block g hg hn)
theorem Lt.has {g : Nat} {cs : Array Value} (h : Lt ex a b) (k : Has a g cs) (hn : ¬ ex g) : Has b g cs := by
  have hl := k.lt
  obtain ⟨t, k⟩ := k
  exact ⟨t, (h.block g hl hn).trans k⟩
theorem Lt.map {P : Program} {k : TypeId} {R : Value → Option (DataW Unit × List MemPlace)} {g n : Nat} {D : DataW Unit} (h : Lt ex a b) (m : a.ownsMap P k R g n D) (hn : ¬ ex g) : b.ownsMap P k R g n D := by
  have hl := m.lt
  obtain ⟨es, clock, hb, F, hs, hD⟩ := m
  exact ⟨es, clock, (h.block g hl hn).trans hb, F, hs, hD⟩
theorem Lt.toBelow (h : Lt ex a b) {B : Nat} (hB : B ≤ a.heap.size) (hx : ∀ i, ex i → B ≤ i) : Below B a b := ⟨h.os, h.tape, h.output, h.size, fun i hi => h.block i (by omega) (fun e => by have := hx i e; omega)⟩
end
theorem Lt.mono {ex ex' : Nat → Prop} {a b : World} (h : Lt ex a b) (hx : ∀ i, ex i → ex' i) : Lt ex' a b := ⟨h.os, h.tape, h.output, h.size, fun i hi hn => h.block i hi fun e => hn (hx i e)⟩
/-- What a call of the closure may change behind the map. -/
def exB (A : Nat) (av : Value) (b : Nat) : Prop := b = A + 3 ∨ av.ownBlock = some b
/-- What a call of the closure may change. -/
def exA (A : Nat) (av : Value) (b : Nat) : Prop := b = A + 1 ∨ b = A + 3 ∨ av.ownBlock = some b
theorem St.gr {N K Z A : Nat} {w w' : World} {L : List (Tm × Value)} {M : List ByteArray} {av : Value} (h : St N K Z A w L M av) (g : Below w.heap.size w w') : St N K Z A w' L M av :=
  ⟨h.known.step0 g, h.cell.step0 g, h.own.below g, h.map.kept (row := none) ⟨g.os, g.tape, g.output, g.size, fun i hi _ => g.block i hi⟩ (by simp), h.keys, h.good⟩
theorem set2 (xs : List Value) (a b c d : Value) (n : Nat) (h : xs.length = n) : ((xs ++ [a, b]).set n c).set (n + 1) d = xs ++ [c, d] := by
  subst h
  rw [List.set_append_right _ _ (Nat.le_refl _), Nat.sub_self, List.set_append_right _ _ (Nat.le_succ _), Nat.succ_sub (Nat.le_refl _), Nat.sub_self]
  rfl
/-- The new element is stored, then the variable. -/
theorem fin1 {A g n cap : Nat} {w9 : World} {xs : List Value} {a b s v : Value} (h : w9.ownsRow (A + 4) 24 2 (.slice (some ⟨g, 0, none⟩) (n + 1) cap) (n + 1) (xs ++ [a, b])) (hl : xs.length = n * 2) :
    ((w9.setCell ⟨g, n * 2, none⟩ s).setCell ⟨g, n * 2 + 1, none⟩ v).ownsRow (A + 4) 24 2 (.slice (some ⟨g, 0, none⟩) (n + 1) cap) (n + 1) (xs ++ [s, v]) := by
  have h1 := (h.stored (n * 2) s).1
  have h2 := (h1.stored (n * 2 + 1) v).1
  rw [set2 xs a b s v (n * 2) hl] at h2
  exact h2
theorem own_fin {A g cap : Nat} {w4 wF : World} {L : List (Tm × Value)} {av : Value} {okt : Nat → Prop} {t : Tm} {tv : Value} (h : OwnA (· < A) (A + 4) w4 L av) (hok : ∀ b, okt b → (b < A ∨ A + 4 ≤ b) ∧ b < w4.heap.size ∧ av.ownBlock ≠ some b) (ht : SlIn okt w4 t.args tv) (hn : t.nm.size ≤ maxLen)
    (hrow : wF.ownsRow (A + 4) 24 2 (.slice (some ⟨g, 0, none⟩) (L.length + 1) cap) (L.length + 1) (flatL L ++ [.string t.nm, tv])) (hF : Lt (exA A av) w4 wF) (hat : av.ownBlock = some g ∨ w4.heap.size ≤ g) :
    OwnA (· < A) (A + 4) wF (L ++ [(t, tv)]) (.slice (some ⟨g, 0, none⟩) (L.length + 1) cap) := by
  obtain ⟨h1, ok, h2, h3⟩ := h
  have fr : ∀ b o, (b < A ∨ A + 4 ≤ b) ∧ b < w4.heap.size ∧ av.ownBlock ≠ some b → wF.cell? ⟨b, o, none⟩ = w4.cell? ⟨b, o, none⟩ := fun b o hb => hF.cell hb.2.1 (fun e => by
    rcases e with e | e | e
    · omega
    · omega
    · exact hb.2.2 e)
  refine ⟨by rw [List.length_append, flatL_snoc]; exact hrow, fun b => ok b ∨ okt b, fun b hk => ?_, fun x hx => ?_⟩
  · have hb2 : (b < A ∨ A + 4 ≤ b) ∧ b < w4.heap.size ∧ av.ownBlock ≠ some b := by
      rcases hk with hk | hk
      · exact h2 b hk
      · exact hok b hk
    refine ⟨hb2.1, Nat.lt_of_lt_of_le hb2.2.1 hF.size, fun e => ?_⟩
    have e' : g = b := by simpa [Value.ownBlock] using e
    rcases hat with h | h
    · exact hb2.2.2 (by rw [h, e'])
    · omega
  · rcases List.mem_append.1 hx with hx | hx
    · exact ⟨((h3 x hx).1.frame fun b o hk => fr b o (h2 b hk)).weaken fun b hk => Or.inl hk, (h3 x hx).2⟩
    · obtain rfl := List.mem_singleton.1 hx
      exact ⟨(ht.frame fun b o hk => fr b o (hok b hk)).weaken fun b hk => Or.inr hk, hn⟩
theorem own_lt {ok0 ex : Nat → Prop} {base : Nat} {a b : World} {L : List (Tm × Value)} {v : Value} (h : OwnA ok0 base a L v) (g : Lt ex a b) (hx : ∀ i, ex i → i < base ∧ ¬ ok0 i) : OwnA ok0 base b L v := by
  obtain ⟨h1, ok, h2, h3⟩ := h
  have hl := h1.lt
  have nx : ∀ i, ok i → ¬ ex i := fun i hi e => by
    rcases (h2 i hi).1 with h | h
    · exact (hx i e).2 h
    · have := (hx i e).1; omega
  refine ⟨⟨h1.1, ?_⟩, ok, fun b hk => ⟨(h2 b hk).1, Nat.lt_of_lt_of_le (h2 b hk).2.1 g.size, (h2 b hk).2.2⟩, fun x hx' => ⟨(h3 x hx').1.frame fun b o hk => g.cell (h2 b hk).2.1 (nx b hk), (h3 x hx').2⟩⟩
  rcases h1.2 with h | ⟨k, cap, cur, e1, e2, e3, e4⟩
  · exact Or.inl h
  · have hk := hl k (by rw [e1]; rfl)
    exact Or.inr ⟨k, cap, cur, e1, e2, (g.block k hk.2 (fun e => by have := (hx k e).1; omega)).trans e3, e4⟩
theorem gt_new {N : Nat} {t : Tm} (hg : GN N t) (hd : depthT t ≤ 4) : GT N ((N + 3) * 20 ^ 4) (20 ^ 4) t := ⟨hg, by have := klen_le 4 t hg hd; omega, size_le 4 t hg hd⟩
/-- What the append of an empty element leaves: the row, one element longer, in its old block or in a new one. -/
structure App (A n : Nat) (w4 w9 : World) (xs : List Value) (av : Value) (g c : Nat) : Prop where
  row : w9.ownsRow (A + 4) 24 2 (.slice (some ⟨g, 0, none⟩) (n + 1) c) (n + 1) (xs ++ [.string ⟨#[]⟩, .slice none 0 0])
  lt : Lt (exB A av) w4 w9
  at_ : av.ownBlock = some g ∨ g = w4.heap.size + 1
  ne : g ≠ A + 3
theorem App.c0 {A n : Nat} {w4 w9 : World} {xs : List Value} {av : Value} {g c : Nat} (h : App A n w4 w9 xs av g c) (hl : xs.length = n * 2) : w9.cell? ⟨g, n * 2, none⟩ = some (.string ⟨#[]⟩) := by
  rw [h.row.cellAt _ (by omega), List.getElem?_append_right (by omega), hl, Nat.sub_self]
  rfl
theorem App.c1 {A n : Nat} {w4 w9 : World} {xs : List Value} {av : Value} {g c : Nat} (h : App A n w4 w9 xs av g c) (hl : xs.length = n * 2) : w9.cell? ⟨g, n * 2 + 1, none⟩ = some (.slice none 0 0) := by
  rw [h.row.cellAt _ (by omega), List.getElem?_append_right (by omega), hl, show n * 2 + 1 - n * 2 = 1 by omega]
  rfl
theorem App.put {A n : Nat} {w4 w9 : World} {xs : List Value} {av : Value} {g c : Nat} (h : App A n w4 w9 xs av g c) (u : Value) : App A n w4 (w9.setCell ⟨A + 3, 0, none⟩ u) xs av g c :=
  ⟨ownsRow_setCell_below h.row (by show A + 3 < A + 4; omega) u, h.lt.put (Or.inl (Or.inl rfl)) u, h.at_, h.ne⟩
theorem App.far {A n : Nat} {w4 w9 : World} {xs : List Value} {av : Value} {g c : Nat} (h : App A n w4 w9 xs av g c) {cs : Array Value} (k : Has w9 (A + 3) cs) (a b : Value) : Has ((w9.setCell ⟨g, n * 2, none⟩ a).setCell ⟨g, n * 2 + 1, none⟩ b) (A + 3) cs :=
  (k.far (p := ⟨g, n * 2, none⟩) (fun e => h.ne e.symm) a).far (p := ⟨g, n * 2 + 1, none⟩) (fun e => h.ne e.symm) b
theorem App.blk {A n : Nat} {w4 w9 : World} {xs : List Value} {av : Value} {g c : Nat} (h : App A n w4 w9 xs av g c) : exB A av g ∨ w4.heap.size ≤ g := h.at_.imp Or.inr (by omega)
/-- The element is stored, then the variable; or the other way round. -/
theorem App.fin {A n : Nat} {w4 w9 : World} {xs : List Value} {av : Value} {g c : Nat} {x nv : Value} (h : App A n w4 w9 xs av g c) (hl : xs.length = n * 2) (k : Has w9 (A + 3) #[x]) (s v : Value) :
    (Lt (exB A av) w4 (((w9.setCell ⟨g, n * 2, none⟩ s).setCell ⟨g, n * 2 + 1, none⟩ v).setCell ⟨A + 3, 0, none⟩ nv) ∧ (((w9.setCell ⟨g, n * 2, none⟩ s).setCell ⟨g, n * 2 + 1, none⟩ v).setCell ⟨A + 3, 0, none⟩ nv).ownsRow (A + 4) 24 2 (.slice (some ⟨g, 0, none⟩) (n + 1) c) (n + 1) (xs ++ [s, v]) ∧ Has (((w9.setCell ⟨g, n * 2, none⟩ s).setCell ⟨g, n * 2 + 1, none⟩ v).setCell ⟨A + 3, 0, none⟩ nv) (A + 3) #[nv]) ∧
    (Lt (exB A av) w4 (((w9.setCell ⟨A + 3, 0, none⟩ nv).setCell ⟨g, n * 2, none⟩ s).setCell ⟨g, n * 2 + 1, none⟩ v) ∧ (((w9.setCell ⟨A + 3, 0, none⟩ nv).setCell ⟨g, n * 2, none⟩ s).setCell ⟨g, n * 2 + 1, none⟩ v).ownsRow (A + 4) 24 2 (.slice (some ⟨g, 0, none⟩) (n + 1) c) (n + 1) (xs ++ [s, v]) ∧ Has (((w9.setCell ⟨A + 3, 0, none⟩ nv).setCell ⟨g, n * 2, none⟩ s).setCell ⟨g, n * 2 + 1, none⟩ v) (A + 3) #[nv]) :=
  ⟨⟨((h.lt.put h.blk s).put h.blk v).put (Or.inl (Or.inl rfl)) nv, ownsRow_setCell_below (fin1 h.row hl) (by show A + 3 < A + 4; omega) nv, (h.far k s v).set 0 nv⟩,
   ⟨((h.put nv).lt.put h.blk s).put h.blk v, fin1 (h.put nv).row hl, (h.put nv).far (k.set 0 nv) s v⟩⟩
/-- What a call of the closure leaves. -/
def AddQ (N A : Nat) (w : World) (L : List (Tm × Value)) (av : Value) (e : Ending) (w' : World) : Prop :=
  e = .returned (.tuple #[]) ∧ ∃ (L' : List (Tm × Value)) (M' : List ByteArray) (av' : Value), St N ((N + 3) * 20 ^ 4) (20 ^ 4) A w' L' M' av' ∧ L.length ≤ L'.length ∧ L'.length ≤ L.length + 1 ∧ Lt (exA A av) w w' ∧ ∀ k, av'.ownBlock = some k → av.ownBlock = some k ∨ w.heap.size ≤ k
theorem add_end {N A g c : Nat} {w w4 wF : World} {L : List (Tm × Value)} {M : List ByteArray} {av tv : Value} {t : Tm} {okt : Nat → Prop} {S : ByteArray} (hav : ∀ k, av.ownBlock = some k → A + 4 ≤ k) (L4 : Lt (exA A av) w w4) (N4 : Has w4 (A + 2) #[.map (some (A + 1))])
    (M4 : w4.ownsMap Tryz.prog 9 (plainElem (H := Unit) Tryz.prog 4) (A + 1) (L.length + 1) (Dof (M ++ [S]))) (O4 : OwnA (· < A) (A + 4) w4 L av) (hM : ∀ x ∈ M, x.size ≤ maxLen) (hL : ∀ x ∈ L, GT N ((N + 3) * 20 ^ 4) (20 ^ 4) x.1) (hS : S.size ≤ maxLen) (hG : GT N ((N + 3) * 20 ^ 4) (20 ^ 4) t)
    (hok : ∀ b, okt b → (b < A ∨ A + 4 ≤ b) ∧ b < w4.heap.size ∧ av.ownBlock ≠ some b) (ht : SlIn okt w4 t.args tv) (hn : t.nm.size ≤ maxLen) (LF : Lt (exB A av) w4 wF)
    (hrow : wF.ownsRow (A + 4) 24 2 (.slice (some ⟨g, 0, none⟩) (L.length + 1) c) (L.length + 1) (flatL L ++ [.string t.nm, tv])) (hat : av.ownBlock = some g ∨ g = w4.heap.size + 1) (hc : Has wF (A + 3) #[.slice (some ⟨g, 0, none⟩) (L.length + 1) c]) :
    AddQ N A w L av (.returned (.tuple #[])) wF := by
  have hw := L4.size
  have nb : ∀ i, i = A + 1 ∨ i = A + 2 → ¬ exB A av i := fun i hi e => by
    rcases e with e | e
    · omega
    · have := hav i e; omega
  refine ⟨rfl, L ++ [(t, tv)], M ++ [S], .slice (some ⟨g, 0, none⟩) (L.length + 1) c, ⟨LF.has N4 (nb _ (Or.inr rfl)), hc, own_fin O4 hok ht hn hrow (LF.mono fun i e => Or.inr e) (hat.imp id (by omega)), ?_, ?_, ?_⟩, by simp, by simp, L4.trans (LF.mono fun i e => Or.inr e), fun k e => ?_⟩
  · rw [List.length_append]
    exact LF.map M4 (nb _ (Or.inl rfl))
  · intro x hx
    rcases List.mem_append.1 hx with hx | hx
    · exact hM x hx
    · obtain rfl := List.mem_singleton.1 hx
      exact hS
  · intro x hx
    rcases List.mem_append.1 hx with hx | hx
    · exact hL x hx
    · obtain rfl := List.mem_singleton.1 hx
      exact hG
  · have e' : g = k := by simpa [Value.ownBlock] using e
    subst e'
    exact hat.imp id (by omega)
set_option maxRecDepth 100000 in
set_option maxHeartbeats 3200000 in
theorem add_any (N A : Nat) (w : World) (L : List (Tm × Value)) (M : List ByteArray) (av : Value) (h : St N ((N + 3) * 20 ^ 4) (20 ^ 4) A w L M av) (hl : L.length ≤ 10000000) (t : Tm) (tv : Value) (okt : Nat → Prop) (hok : ∀ b, okt b → (b < A ∨ A + 4 ≤ b) ∧ b < w.heap.size ∧ av.ownBlock ≠ some b)
    (ht : SlIn okt w t.args tv) (hn : t.nm.size ≤ maxLen) (hg : GN N t) (hk : klen t ≤ 4611686018427387904) (hz : sizeT t ≤ 1000000000000) :
    Calls Tryz.prog 82 #[.agg #[.string t.nm, tv], .pointer (some ⟨A + 2, 0, none⟩), .pointer (some ⟨A + 3, 0, none⟩)] w (AddQ N A w L av) := by
  obtain ⟨i0, hi, hz0, hz1, hz2⟩ := info_parts Tryz.info28
  obtain ⟨p, c, rfl⟩ := ht.form
  obtain ⟨va, vc, rfl⟩ := h.own.form
  have hA : A + 4 ≤ w.heap.size := h.cell.lt
  obtain ⟨W1, hW1⟩ : ∃ W1, W1 = w.alloc (.cells #[.string t.nm, .slice p t.args.length c] 24) := ⟨_, rfl⟩
  have G1 : Hid (Below w.heap.size w W1) := Lib.hid (by rw [hW1]; exact below_alloc _ _)
  have T1 : Hid (Has W1 w.heap.size #[.string t.nm, .slice p t.args.length c]) := Lib.hid (by rw [hW1]; exact Has.new _ _ _)
  have hk2 := hk
  have FT := Lib.hid (fun w' (g : Below w.heap.size w w') => ht.frame (w' := w') fun b o hb => g.cell (p := ⟨b, o, none⟩) (hok b hb).2.1)
  have CK := Lib.hid (fun w' (g : Below w.heap.size w w') => LigC.key_any t w.heap.size w' _ g.size ((FT.out w' g).weaken fun b hb => (hok b hb).2.1) hk2)
  have CL := Lib.hid (fun w' (g : Below w.heap.size w w') => LigB.levels_any t w.heap.size w' _ g.size ((FT.out w' g).weaken fun b hb => (hok b hb).2.1) hz)
  have SS := Lib.hid (fun w' (g : Below w.heap.size w w') => h.gr g)
  have OL := Lib.hid h.own.1.lt
  have HK := Lib.hid (And.intro hk hn)
  have HG := Lib.hid (gt_new (t := t) hg)
  have HOK := Lib.hid hok
  have hA1 := Lib.hid hA
  generalize hn' : t.nm = n at *
  have HN := Lib.hid hn'
  generalize ha' : t.args.length = a at *
  have HA := Lib.hid ha'
  clear h hok ht hn hk hz hk2 hg hn' ha'
  obtain ⟨x1, x2, x3, x4, x5⟩ := T1.out.two
  go_enter Tryz.func82, Tryz.ntmps82
  go_upto_region 1 with fail
  rw [← hW1]
  clear hW1
  go_wp2_with fail
  refine (CK.out _ G1.out).mono ?_
  rintro e w2 ⟨S, rfl, hS, g2⟩
  have D2 := Lib.hid (next0 G1.out g2.1)
  have T2 := Lib.hid (T1.out.step0 g2.1)
  have S2 := Lib.hid (SS.out w2 D2.out)
  have hSz : S.size ≤ maxLen := by have := HK.out.1; unfold maxLen; omega
  have LK := look_bool S2.out.map S2.out.keys S hSz
  have HKS : keyOf Tryz.prog 9 (.string S) = some (.string S.data.toList) := keyOf_string_mk Tryz.underlying9 hSz
  have k1 := S2.out.known.cell 0
  have k2 := S2.out.known.free 0
  have k3 := S2.out.known.lt
  clear x1 x2 x3 x4 x5 g2 T1 CK hS
  obtain ⟨x1, x2, x3, x4, x5⟩ := T2.out.two
  cases hh : hasB M S
  · rw [hh] at LK
    go_wp2_with fail
    refine (CL.out _ (by first | exact D2.out | exact D2.out.drew | exact below_drewN D2.out _)).mono ?_
    rintro e w3 ⟨rfl, g3⟩
    have W3 : Hid (Below w2.heap.size w2 w3) := Lib.hid (by first | exact g3.1 | exact next0 (Below.refl _ _).drew g3.1 | exact next0 (below_drewN (Below.refl _ _) _) g3.1)
    have D3 := Lib.hid (next0 D2.out W3.out)
    have T3 := Lib.hid (T2.out.step0 W3.out)
    have S3 := Lib.hid (SS.out w3 D3.out)
    clear x1 x2 x3 x4 x5 k1 k2 k3 g3 LK CL T2
    have k1 := S3.out.known.cell 0
    have k2 := S3.out.known.free 0
    have k3 := S3.out.known.lt
    obtain ⟨x1, x2, x3, x4, x5⟩ := T3.out.two
    have A0 : L.length < maxLen := by unfold maxLen; omega
    by_cases hd : depthT t ≤ 4
    · have hdi : ((depthT t : Nat) : Int) ≤ 4 := by omega
      have HG4 := Lib.hid (HG.out hd)
      have D0 := Lib.hid (Dof_snoc M S)
      have SM := Lib.hid S3.out.map
      go_upto_region 4 with (at_mapUpdate; refine wpList_mapUpdate_own _ rfl _ _ _ 74 rfl 9 4 law Tryz.underlying74 _ (A + 1) L.length _ rfl SM.out A0 _ _ _ rfl rfl HKS _ [] (plainElem_bool (H := Unit) Tryz.underlying4 true) ?_; intro w4 hown4 hgrow4)
      have M4 := Lib.hid (by rw [← D0.out] at hown4; exact hown4)
      have X4 : Hid (Lt (· = A + 1) w3 w4) := Lib.hid ((Lt.of (Below.refl _ _)).grown hgrow4 (fun k e => Or.inl (by cases e; rfl)))
      have T4 := Lib.hid (X4.out.has T3.out (by omega))
      have C4 := Lib.hid (X4.out.has S3.out.cell (by omega))
      have N4 := Lib.hid (X4.out.has S3.out.known (by omega))
      have O4 := Lib.hid (own_lt S3.out.own X4.out (fun i e => by subst e; exact ⟨by omega, by omega⟩))
      have B4 := Lib.hid (And.intro S3.out.keys S3.out.good)
      have TT4 := Lib.hid ((FT.out w3 D3.out).frame (w' := w4) fun b o hb => X4.out.cell (Nat.lt_of_lt_of_le (HOK.out b hb).2.1 D3.out.size) (fun e => by have := (HOK.out b hb).1; omega))
      have L4 : Hid (Lt (exA A (.slice va L.length vc)) w w4) := Lib.hid ((Lt.of D3.out).grown hgrow4 (fun k e => Or.inl (Or.inl (by cases e; rfl))))
      clear hown4 hgrow4 k1 k2 k3 x1 x2 x3 x4 x5 SM T3 S3 D0 hd hdi
      have hA4 : A + 4 ≤ w4.heap.size := C4.out.lt
      have hw4 : w.heap.size ≤ w4.heap.size := L4.out.size
      obtain ⟨x1, x2, x3, x4, x5⟩ := T4.out.two
      have c1 := C4.out.cell 0
      have c2 := C4.out.free 0
      have c3 := C4.out.lt
      have A1 : L.length + 1 ≤ maxLen := by unfold maxLen; omega
      have A2 : (L.length + 1) * 40 ≤ 140737488355328 := by omega
      have hzb : A + 4 ≤ (w4.alloc (.cells #[.string ⟨#[]⟩, .slice none 0 0] 24)).heap.size := by simp; omega
      have nv1 : (Value.slice va L.length vc).ownBlock ≠ some (A + 3) := fun e => by have := OL.out _ e; omega
      have hxn : ∀ k, (Value.slice va L.length vc).ownBlock = some k → k ≠ w.heap.size := fun k e => by have := OL.out _ e; omega
      have hlt1 : ((L.length : Int) < (L.length : Int) + 1) := by omega
      have hne3 : ∀ k, (Value.slice va L.length vc).ownBlock = some k ∨ k = w4.heap.size + 1 → k ≠ A + 3 := fun k e => by
        rcases e with e | e
        · have := OL.out _ e; omega
        · omega
      have HN3 := Lib.hid hne3
      have hflat := flatL_len L
      have HFL := Lib.hid hflat
      clear hne3 hflat
      go_wp2_with fail
      go_region_law (first
        | (refine step_append_lies _ rfl _ _ 22 rfl (A + 4) 24 i0 (.agg #[.string ⟨#[]⟩, .slice none 0 0]) 2 40 Tryz.underlying22 hi hz0 hz1 hz2 rfl (by decide) (.slice va L.length vc) L.length (flatL L) rfl (O4.out.1.alloc _) ⟨w4.heap.size, 0, none⟩ 1 1 [.string ⟨#[]⟩, .slice none 0 0] rfl rfl (news2 _ _ _ _) (one2 _ _ _ _) (by decide) A1 A2 hzb (w4.heap.size + 1) (by simp) ?_; (intro g9 c9 w9 hown hgrow hat hlt9; have P9 := Lib.hid (App.mk hown ((Lt.of (below_alloc w4 (.cells #[.string ⟨#[]⟩, .slice none 0 0] 24)).drew).grown hgrow (fun k e => Or.inl (Or.inr e))) hat (HN3.out g9 hat)); have C9 := Lib.hid (UniD.Has.grown (C4.out.alloc _).drew hgrow nv1); have T9 := Lib.hid (UniD.Has.grown (T4.out.alloc _).drew hgrow (fun e => hxn _ e rfl)); obtain ⟨v1, v2, v3, v4, v5⟩ := T9.out.two; have r1 := App.c0 P9.out HFL.out; have r2 := App.c1 P9.out HFL.out; have r3 := hown.frozenAt (L.length * 2); have r4 := hown.frozenAt (L.length * 2 + 1); have PU := Lib.hid (fun u => App.put P9.out u); have s1 := fun u => App.c0 (PU.out u) HFL.out; have s2 := fun u => App.c1 (PU.out u) HFL.out; have s3 := fun u => (PU.out u).row.frozenAt (L.length * 2); have s4 := fun u => (PU.out u).row.frozenAt (L.length * 2 + 1); have e1 := C9.out.cell 0; have e2 := C9.out.free 0; have e3 := C9.out.lt; have CF := Lib.hid (App.far P9.out C9.out); have e4 := fun a b => (CF.out a b).cell 0; have e5 := fun a b => (CF.out a b).free 0; clear hown hgrow hat)))
      all_goals
        go_wp2_with fail
        refine bodyPost_ret (v := .tuple #[]) (by simp [results, Tryz.results82, go_sem]) rfl ?_
        have AF := App.fin (nv := .slice (some ⟨g9, 0, none⟩) (L.length + 1) c9) P9.out HFL.out C9.out (.string n) (.slice p a c)
        have hokw : ∀ b, okt b → (b < A ∨ A + 4 ≤ b) ∧ b < w4.heap.size ∧ (Value.slice va L.length vc).ownBlock ≠ some b := fun b hb => ⟨(HOK.out b hb).1, Nat.lt_of_lt_of_le (HOK.out b hb).2.1 hw4, (HOK.out b hb).2.2⟩
        first
          | exact add_end (t := t) (fun k e => (OL.out k e).1) L4.out N4.out M4.out O4.out B4.out.1 B4.out.2 hSz HG4.out hokw (by rw [HA.out] at TT4; exact TT4.out) (by rw [HN.out]; exact HK.out.2) AF.1.1 (by rw [HN.out]; exact AF.1.2.1) P9.out.at_ AF.1.2.2
          | exact add_end (t := t) (fun k e => (OL.out k e).1) L4.out N4.out M4.out O4.out B4.out.1 B4.out.2 hSz HG4.out hokw TT4.out (by rw [HN.out]; exact HK.out.2) AF.1.1 (by rw [HN.out]; exact AF.1.2.1) P9.out.at_ AF.1.2.2
          | exact add_end (t := t) (fun k e => (OL.out k e).1) L4.out N4.out M4.out O4.out B4.out.1 B4.out.2 hSz HG4.out hokw TT4.out (by rw [HN.out]; exact HK.out.2) AF.2.1 (by rw [HN.out]; exact AF.2.2.1) P9.out.at_ AF.2.2.2
    · have hdi : ¬ ((depthT t : Nat) : Int) ≤ 4 := by omega
      go_wp2_with fail
      refine bodyPost_ret (v := .tuple #[]) (by simp [results, Tryz.results82, go_sem]) rfl ?_
      exact ⟨rfl, L, M, _, S3.out, Nat.le_refl _, Nat.le_succ _, Lt.of D3.out, fun k hk => Or.inl hk⟩
  · rw [hh] at LK
    go_wp2_with fail
    refine bodyPost_ret (v := .tuple #[]) (by simp [results, Tryz.results82, go_sem]) rfl ?_
    exact ⟨rfl, L, M, _, S2.out, Nat.le_refl _, Nat.le_succ _, Lt.of D2.out, fun k hk => Or.inl hk⟩
end LigY
end Go.Proofs.YtdkpflojdnkbnaaGreatDoor
/- What Light's walk wants of rules, atoms and ways, plain and in memory. No conditions. -/
namespace Go.Proofs.YtdkpflojdnkbnaaGreatDoor
open Go Go.RowKit Go.Maps Go.WideMaps
namespace LigZ
open Kit LexM TermM TermI TermN TermU TermE UniM UniK UniA UniD UniE UniG UniR LigM LigP LigG LigD LigQ LigE LigW LigV LigU LigX LigY
theorem klenL_size {N : Nat} : ∀ {l : List Tm}, (∀ x ∈ l, klen x + 1 ≤ sizeT x * (N + 3)) → klenL l ≤ sizeL l * (N + 3)
  | [], _ => by simp [klenL]
  | t :: l, h => by
    have h1 := h t (by simp)
    have h2 := klenL_size (l := l) fun x hx => h x (by simp [hx])
    simp only [klenL, sizeL, Nat.add_mul]
    omega
theorem klen_size {N : Nat} (t : Tm) (hg : GN N t) : klen t + 1 ≤ sizeT t * (N + 3) := by
  induction t using Tm.ind with
  | h n l ih =>
    have h1 := klenL_size (N := N) (l := l) fun x hx => ih x hx (gn_arg hg hx)
    have h2 : n.size ≤ N := gn_nm hg
    simp only [klen, sizeT, Nat.add_mul]
    omega
/-- Blocks in which what an atom holds may lie: none of the closure's own, none made later, not the atoms' row. -/
def okz (A B : Nat) (av : Value) (b : Nat) : Prop := (b < A ∨ A + 4 ≤ b) ∧ b < B ∧ av.ownBlock ≠ some b
theorem own_at {A : Nat} {w : World} {L : List (Tm × Value)} {av : Value} (h : OwnA (· < A) (A + 4) w L av) : AtR (okz A w.heap.size av) A w (L.map (·.1)) av := by
  obtain ⟨h1, ok, h2, h3⟩ := h
  have hl := h1.lt
  have hm : (L.map (·.1)).length = L.length := by simp
  rcases h1.2 with ⟨rfl, hz⟩ | ⟨g, cap, cur, rfl, e2, e3, e4, e5, e6, e7⟩
  · exact ⟨none, 0, by rw [hm, hz], fun k hk => by omega⟩
  · refine ⟨_, cap, by rw [hm], fun k hk => ?_⟩
    have hk' : k < L.length := by omega
    obtain ⟨x, hx⟩ : ∃ x, L[k]? = some x := ⟨L[k], by simp [hk']⟩
    obtain ⟨f1, f2⟩ := flatL_get L k x hx
    have hxs := h3 x (List.mem_of_getElem? hx)
    obtain ⟨q, d, eq⟩ := hxs.1.form
    have hg := hl g rfl
    refine ⟨x.1, g, 0, q, d, by simp [hx], rfl, ⟨hg.2, by omega⟩, ?_, ?_, ?_, hxs.2⟩
    · rw [Nat.zero_add]
      exact (h1.cellAt _ (by omega)).trans f1
    · rw [Nat.zero_add, h1.cellAt _ (by omega), f2, eq]
    · rw [← eq]
      exact hxs.1.weaken fun b hk => h2 b hk
theorem Lt.ofCh {r : Nat} {a b : World} (h : Ch r a b) : Lt (· = r) a b := ⟨h.os, h.tape, h.output, h.size, fun i hi hn => h.block i hi (fun e => hn (Option.some.inj e))⟩
theorem St.ch {N K Z A : Nat} {a b : World} {L : List (Tm × Value)} {M : List ByteArray} {av : Value} (h : St N K Z A a L M av) (g : Ch A a b) : St N K Z A b L M av :=
  ⟨(Lt.ofCh g).has h.known (by omega), (Lt.ofCh g).has h.cell (by omega), own_lt h.own (Lt.ofCh g) (fun i e => by subst e; exact ⟨by omega, by omega⟩), (Lt.ofCh g).map h.map (by omega), h.keys, h.good⟩
/-- The rules of a list, three cells each. -/
theorem rin_row {ok : Nat → Prop} {w : World} {l : List Rl} {p : Option Addr} {n c : Nat} (h : RIn ok w l (.slice p n c)) (k : Nat) (hk : k < l.length) : ∃ x g o q d q2 d2, l[k]? = some x ∧ p = some ⟨g, o, none⟩ ∧ ok g ∧ w.cell? ⟨g, o + k * 3, none⟩ = some (.string x.1.nm) ∧ w.cell? ⟨g, o + k * 3 + 1, none⟩ = some (.slice q x.1.args.length d) ∧
    w.cell? ⟨g, o + k * 3 + 1 + 1, none⟩ = some (.slice q2 x.2.length d2) ∧ SlIn ok w x.1.args (.slice q x.1.args.length d) ∧ x.1.nm.size ≤ maxLen ∧ LIn ok w x.2 (.slice q2 x.2.length d2) := by
  obtain ⟨L, rfl, p', c', e, h1, h2, h3, h4⟩ := h
  cases e
  have hk' : k < L.length := by simpa using hk
  obtain ⟨g, o, e1, e2, e3⟩ := h4 (by omega)
  obtain ⟨x, hx⟩ : ∃ x, L[k]? = some x := ⟨L[k], by simp [hk']⟩
  obtain ⟨s1, s2, s3⟩ := h3 x (List.mem_of_getElem? hx)
  obtain ⟨q, d, eq⟩ := s1.form
  obtain ⟨q2, d2, eq2⟩ := s3.form
  refine ⟨x.1, g, o, q, d, q2, d2, by simp [hx], e1, e2, e3 k x hx 0 _ rfl, ?_, ?_, by rw [← eq]; exact s1, s2, by rw [← eq2]; exact s3⟩
  · rw [← eq]; exact e3 k x hx 1 _ rfl
  · rw [← eq2]; exact e3 k x hx 2 _ rfl
/-- What may be handed to the closure. -/
def Gm (N : Nat) (t : Tm) : Prop := GN N t ∧ klen t ≤ 4611686018427387904 ∧ sizeT t ≤ 1000000000000
theorem gm_inst {N : Nat} (hN : (N + 3) * 4000000 ≤ 4611686018427387904) {t u : Tm} (ht : GN N t) (hs : sizeT t ≤ 20) (hu : GN N u ∧ klen u ≤ klen t + sizeT t * ((N + 3) * 20 ^ 4) ∧ sizeT u ≤ sizeT t * 20 ^ 4) : Gm N u := by
  obtain ⟨h1, h2, h3⟩ := hu
  have a := klen_size t ht
  have b : sizeT t * (N + 3) ≤ 20 * (N + 3) := Nat.mul_le_mul_right _ hs
  have c : sizeT t * ((N + 3) * 20 ^ 4) ≤ 20 * ((N + 3) * 20 ^ 4) := Nat.mul_le_mul_right _ hs
  have d : sizeT t * 20 ^ 4 ≤ 20 * 20 ^ 4 := Nat.mul_le_mul_right _ hs
  exact ⟨h1, by omega, by omega⟩
/-- The same arguments under another name. -/
theorem gm_name {N : Nat} (hN : (N + 3) * 4000000 ≤ 4611686018427387904) {t : Tm} {n : ByteArray} (hn : n.size ≤ N) (h4 : n.size ≤ 4) (h : GT N ((N + 3) * 20 ^ 4) (20 ^ 4) t) : Gm N (.mk n t.args) := by
  obtain ⟨m, l⟩ := t
  obtain ⟨h1, h2, h3⟩ := h
  have h1' := h1
  unfold GN at h1'
  simp only [klen] at h2
  simp only [sizeT] at h3
  refine ⟨gn_mk hn h1'.2.1 fun x hx => gn_arg h1 hx, ?_, ?_⟩
  · simp only [klen, Tm.args]; omega
  · simp only [sizeT, Tm.args]; omega
end LigZ
end Go.Proofs.YtdkpflojdnkbnaaGreatDoor
/- Rows of literals of the call's own, whose terms lie in blocks of a kind or in new ones. No conditions. -/
namespace Go.Proofs.YtdkpflojdnkbnaaGreatDoor
open Go Go.RowKit
namespace UnqA
open LexM TermM TermI Kit TermN TermU UniK UniM LigY
/-- As OwnG, with a kind for what is behind the elements. -/
def OwnX {α : Type} (K : Kd α) (ok0 : Nat → Prop) (base : Nat) (w : World) (L : List α) (v : Value) : Prop :=
  w.ownsRow base K.ty 3 v L.length (K.flat L) ∧ ∃ ok : Nat → Prop, (∀ b, ok b → (ok0 b ∨ base ≤ b) ∧ b < w.heap.size ∧ v.ownBlock ≠ some b) ∧ ∀ x ∈ L, K.inn ok w x
section
variable {α : Type} {K : Kd α} {ok0 : Nat → Prop} {base : Nat} {w w' : World} {L : List α} {v : Value}
theorem OwnX.nil (ok0 : Nat → Prop) (base : Nat) (w : World) : OwnX K ok0 base w [] (.slice none 0 0) :=
  ⟨⟨rfl, Or.inl ⟨rfl, rfl⟩⟩, fun _ => False, fun b h => h.elim, fun x h => by simp at h⟩
theorem OwnX.form (h : OwnX K ok0 base w L v) : ∃ a c, v = .slice a L.length c := by
  rcases h.1.2 with ⟨e, hz⟩ | ⟨g, cap, cur, e, _⟩
  · exact ⟨none, 0, by rw [e, hz]⟩
  · exact ⟨_, cap, e⟩
theorem OwnX.lt {ex : Nat → Prop} (h : OwnX K ok0 base w L v) (g : Lt ex w w') (hx : ∀ i, ex i → i < base ∧ ¬ ok0 i) : OwnX K ok0 base w' L v := by
  obtain ⟨h1, ok, h2, h3⟩ := h
  have hl := h1.lt
  have nx : ∀ i, ok i → ¬ ex i := fun i hi e => by
    rcases (h2 i hi).1 with h | h
    · exact (hx i e).2 h
    · have := (hx i e).1; omega
  refine ⟨⟨h1.1, ?_⟩, ok, fun b hk => ⟨(h2 b hk).1, Nat.lt_of_lt_of_le (h2 b hk).2.1 g.size, (h2 b hk).2.2⟩, fun x hx' => K.keep (h3 x hx') fun b o hk => g.cell (h2 b hk).2.1 (nx b hk)⟩
  rcases h1.2 with h | ⟨k, cap, cur, e1, e2, e3, e4⟩
  · exact Or.inl h
  · have hk := hl k (by rw [e1]; rfl)
    exact Or.inr ⟨k, cap, cur, e1, e2, (g.block k hk.2 (fun e => by have := (hx k e).1; omega)).trans e3, e4⟩
theorem OwnX.below (h : OwnX K ok0 base w L v) (g : Below w.heap.size w w') : OwnX K ok0 base w' L v := h.lt (ex := fun _ => False) (Lt.of g) fun _ e => e.elim
theorem OwnX.add {w2 w3 : World} {g cap : Nat} {x : α} {ok' : Nat → Prop} (h : OwnX K ok0 base w2 L v) (hs : K.inn ok' w2 x) (hok : ∀ b, ok' b → (ok0 b ∨ base ≤ b) ∧ b < w2.heap.size ∧ v.ownBlock ≠ some b)
    (hown : w3.ownsRow base K.ty 3 (.slice (some ⟨g, 0, none⟩) (L.length + 1) cap) (L.length + 1) (K.flat L ++ K.cells x)) (hlt : Lt (fun b => v.ownBlock = some b) w2 w3) (hat : v.ownBlock = some g ∨ w2.heap.size ≤ g) :
    OwnX K ok0 base w3 (L ++ [x]) (.slice (some ⟨g, 0, none⟩) (L.length + 1) cap) := by
  obtain ⟨h1, ok, h2, h3⟩ := h
  refine ⟨by rw [List.length_append, flat_app, flat_one]; exact hown, fun b => ok b ∨ ok' b, fun b hk => ?_, fun y hy => ?_⟩
  · have hb2 : (ok0 b ∨ base ≤ b) ∧ b < w2.heap.size ∧ v.ownBlock ≠ some b := by
      rcases hk with hk | hk
      · exact h2 b hk
      · exact hok b hk
    refine ⟨hb2.1, Nat.lt_of_lt_of_le hb2.2.1 hlt.size, fun e => ?_⟩
    have e' : g = b := by simpa [Value.ownBlock] using e
    rcases hat with h | h
    · exact hb2.2.2 (by rw [h, e'])
    · omega
  · rcases List.mem_append.1 hy with hy | hy
    · exact K.wide (K.keep (h3 y hy) fun b o hk => hlt.cell (h2 b hk).2.1 (h2 b hk).2.2) fun b hk => Or.inl hk
    · obtain rfl := List.mem_singleton.1 hy
      exact K.wide (K.keep hs fun b o hk => hlt.cell (hok b hk).2.1 (hok b hk).2.2) fun b hk => Or.inr hk
theorem OwnX.row (h : OwnX K ok0 base w L v) : RowG K (fun b => ok0 b ∨ (base ≤ b ∧ b < w.heap.size)) w L v := by
  obtain ⟨h1, ok, h2, h3⟩ := h
  have hl := h1.lt
  have h3' : ∀ x ∈ L, K.inn (fun b => ok0 b ∨ (base ≤ b ∧ b < w.heap.size)) w x := fun x hx => K.wide (h3 x hx) fun b hk => (h2 b hk).1.imp id fun h => ⟨h, (h2 b hk).2.1⟩
  rcases h1.2 with ⟨e, hz⟩ | ⟨g, cap, cur, e, e2, e3, e4, e5, _⟩
  · exact ⟨none, 0, by rw [e, hz], by omega, Nat.zero_le _, h3', fun h => by omega⟩
  · subst e
    refine ⟨_, cap, rfl, e4, e5, h3', fun _ => ⟨g, 0, rfl, Or.inr (hl g rfl), fun i x hx j u hu => ?_⟩⟩
    have hi := (List.getElem?_eq_some_iff.1 hx).1
    have hj := (List.getElem?_eq_some_iff.1 hu).1
    rw [K.len] at hj
    rw [show 0 + i * 3 + j = i * 3 + j by omega]
    exact (h1.cellAt _ (by omega)).trans (flat_get L i x hx j u hu)
end
/-- What comes of a literal. -/
def atomsL (φ : Tm → Tm) (l : List Lt) : List Lt := l.map fun x => (x.1, φ x.2)
theorem atoms_next {φ : Tm → Tm} {l : List Lt} {k : Nat} {x : Lt} (h : l[k]? = some x) : atomsL φ (l.take (k + 1)) = atomsL φ (l.take k) ++ [(x.1, φ x.2)] := by
  unfold atomsL
  rw [take_get l k x h, List.map_append]
  rfl
/-- What a rule's replacement leaves; what it holds lies in blocks of the kind or in new ones. -/
def RuX (ok0 : Nat → Prop) (h : Tm) (l : List Lt) (w : World) (e : Ending) (w' : World) : Prop :=
  ∃ (q : Option Addr) (d : Nat) (v : Value), e = .returned (.agg #[.string h.nm, .slice q h.args.length d, v]) ∧ SlIn (fun b => ok0 b ∨ (w.heap.size ≤ b ∧ b < w'.heap.size)) w' h.args (.slice q h.args.length d) ∧ LIn (fun b => ok0 b ∨ (w.heap.size ≤ b ∧ b < w'.heap.size)) w' l v ∧ h.nm.size ≤ maxLen ∧ Below w.heap.size w w'
end UnqA
end Go.Proofs.YtdkpflojdnkbnaaGreatDoor
