/- Texts laid together: LigC; LigB; LigY; UnqA; UnpP; UnmA; UnmB; UnmC; UniH; UnmD; UnmE. Their own heads stand before each. -/
import Derived.Test.YtjfgnmmcdgpiiaaGreatDoorLigM
import Derived.Test.YtjfgnmmcdgpiiaaGreatDoorTermI
import Derived.Laws.Concat
import Derived.Test.YtjfgnmmcdgpiiaaGreatDoorTermN
import Derived.Test.YtjfgnmmcdgpiiaaGreatDoorLigE
import Derived.Test.YtjfgnmmcdgpiiaaGreatDoorTermE
import Derived.Deep.RegionLaw
import Derived.WalkSpells
import Derived.Test.YtjfgnmmcdgpiiaaGreatDoorUniP
import Derived.Test.YtjfgnmmcdgpiiaaGreatDoorUniK
import Derived.Test.YtjfgnmmcdgpiiaaGreatDoorTermEq
import Derived.Deep.RegionWith
import Derived.BigQuiet
import Derived.Deep.RegionHeld3
import Derived.Deep.DeepCutAuto
import Derived.Test.YtjfgnmmcdgpiiaaGreatDoorUniL
import Derived.Test.YtjfgnmmcdgpiiaaGreatDoorTermT
import Derived.Maps.OwnSet
import Derived.Deep.LoopGhost
import Derived.Test.YtjfgnmmcdgpiiaaGreatDoorTermR
import Derived.Test.YtjfgnmmcdgpiiaaGreatDoorUniG
import Derived.IntWalk
import Derived.Sort.EncStr
import Derived.Sort.Grow
/- key of gameplayerplain: a string of the plain length. Condition: it is short enough. -/
namespace Go.Proofs.YtjfgnmmcdgpiiaaGreatDoor
open Go Go.RowKit
namespace LigC
open LexM TermM TermI Kit LigM
set_option maxRecDepth 100000 in
set_option maxHeartbeats 1600000 in
theorem key_any (t : Tm) : ∀ (B : Nat) (w : World) (sv : Value), B ≤ w.heap.size → SlIn (· < B) w t.args sv → klen t ≤ 4611686018427387904 →
    Calls Tryz.prog 105 #[.agg #[.string t.nm, sv]] w fun e w' => ∃ S : ByteArray, e = .returned (.string S) ∧ S.size = klen t ∧ Gr w w' := by
  induction t using Tm.ind with
  | h n l ih =>
    intro B w sv hB h hz
    dsimp only [Tm.args, Tm.nm] at h ⊢
    obtain ⟨p, c, rfl, hn, hc, hm, hR⟩ := h.row
    simp only [klen] at hz
    have h63 : l.length ≤ 9223372036854775806 := by have := len_klen l; omega
    have IH : Hid (∀ t ∈ l, ∀ (w : World) (v : Value), B ≤ w.heap.size → SlIn (· < B) w t.args v → Calls Tryz.prog 105 #[.agg #[.string t.nm, v]] w fun e w' => ∃ S : ByteArray, e = .returned (.string S) ∧ S.size = klen t ∧ Gr w w') :=
      Lib.hid (fun t hk w v hB h => ih t hk B w v hB h (by have := klenL_mem hk; omega))
    have NX : Hid (∀ k t, l[k]? = some t → klenL (l.take (k + 1)) = klenL (l.take k) + (klen t + 1)) := Lib.hid (fun k t h => klen_next l k t h)
    have GT : Hid (∀ k, n.size + 2 + klenL (l.take k) ≤ 4611686018427387904) := Lib.hid (fun k => by have := klenL_take l k; omega)
    have FL : Hid (n.size + 2 + klenL (l.take l.length) = klen (.mk n l)) := Lib.hid (by rw [List.take_length, klen])
    have HB := Lib.hid hB
    have HR := Lib.hid hR
    have P0 := Lib.hid (fun w' => run_string_add_sum (P := Tryz.prog) w' n ⟨#[40]⟩ (by show _ + 1 ≤ _; omega))
    generalize hm' : l.length = m at *
    have HM := Lib.hid hm'
    clear ih hR h hm' hn
    have p0 := P0.out
    have hn40 : (n ++ ⟨#[40]⟩ : ByteArray).size = n.size + 1 := by rw [ByteArray.size_append]; rfl
    generalize hS0 : (n ++ ⟨#[40]⟩ : ByteArray) = S0 at *
    clear hS0
    have HS0 := Lib.hid hn40
    clear hn40
    go_enter Tryz.func105, Tryz.ntmps105
    go_wp2_with fail
    clear p0
    go_loopw [3, 11] (fun d i wr => ∃ (k : Nat) (S : ByteArray), k ≤ m ∧ i = .int .i64 k ∧ d = .string S ∧ Hid (S.size = n.size + 1 + klenL (l.take k)) ∧ Hid (Gr (w.alloc (.cells #[.string n, .slice p m c] 27)) wr)) (fun _ i _ => m - (intOf i).toNat)
    case atStart => exact ⟨0, S0, Nat.zero_le _, rfl, rfl, Lib.hid (by rw [HS0.out]; simp [klenL]), Lib.hid (Gr.refl _)⟩
    case round =>
      obtain ⟨k, S, hk, rfl, rfl, hSz, hg⟩ := hrel
      by_cases hlt : k < m
      · obtain ⟨t, b, o, q, d, ht, rfl, hb, c1, c2, hs, hts⟩ := (HR.out.gr ((Gr.alloc _ _).trans hg.out) HB.out) k (by rw [HM.out]; exact hlt)
        obtain ⟨b0, b1, _, _, hbl⟩ := (hg.out.has (Has.new w _ _)).two
        have HD := Lib.hid (NX.out k t ht)
        have GT1 := Lib.hid (GT.out (k + 1))
        have IT := Lib.hid (IH.out t (List.mem_of_getElem? ht) wr _ (Nat.le_trans HB.out ((Gr.alloc _ _).trans hg.out).size) hs)
        clear ht hs hts
        generalize klen t = kt at *
        go_wp2_with fail
        refine IT.out.mono ?_
        rintro e w' ⟨T, rfl, hT, g2⟩
        have hg2 := Lib.hid (hg.out.trans g2)
        have hsz := hSz.out
        have hd := HD.out
        have hgt := GT1.out
        have p1 := fun w' => run_string_add_sum (P := Tryz.prog) w' T ⟨#[44]⟩ (by show _ + 1 ≤ _; omega)
        have hT2 : (T ++ ⟨#[44]⟩ : ByteArray).size = kt + 1 := by rw [ByteArray.size_append, hT]; rfl
        generalize hT3 : (T ++ ⟨#[44]⟩ : ByteArray) = T2 at *
        clear hT3
        have p2 := fun w' => run_string_add_sum (P := Tryz.prog) w' S T2 (by omega)
        have hS2 : (S ++ T2).size = n.size + 1 + klenL (l.take (k + 1)) := by rw [ByteArray.size_append]; omega
        generalize hS3 : S ++ T2 = S2 at *
        have HS2 := Lib.hid hS2
        clear g2 hsz hd hgt hS3 hS2 hT2 hT IT HD GT1
        go_wp2_with fail
        go_roundw
        case rel => exact ⟨k + 1, S2, by omega, by go_num, rfl, HS2, hg2⟩
        case measure => simp [intOf]; omega
      · obtain rfl : k = m := by omega
        have hgt := GT.out k
        have hsz := hSz.out
        have p1 := fun w' => run_string_add_sum (P := Tryz.prog) w' S ⟨#[41]⟩ (by show _ + 1 ≤ _; omega)
        have hF : (S ++ ⟨#[41]⟩ : ByteArray).size = klen (.mk n l) := by rw [ByteArray.size_append, ← FL.out]; show _ + 1 = _; omega
        generalize (S ++ ⟨#[41]⟩ : ByteArray) = S2 at *
        have HF := Lib.hid hF
        clear hgt hsz hF
        go_wp2_with fail
        go_ret
        exact ⟨S2, rfl, HF.out, (Gr.alloc _ _).trans hg.out⟩
end LigC
end Go.Proofs.YtjfgnmmcdgpiiaaGreatDoor
/- levels of gameplayerplain: the depth of a term. Condition: at most 10^12 parts. Made by genlig.py. -/
namespace Go.Proofs.YtjfgnmmcdgpiiaaGreatDoor
open Go Go.RowKit
namespace LigB
open LexM TermM TermI Kit TermN
set_option maxRecDepth 100000 in
set_option maxHeartbeats 1600000 in
theorem levels_any (t : Tm) : ∀ (B : Nat) (w : World) (sv : Value), B ≤ w.heap.size → SlIn (· < B) w t.args sv → sizeT t ≤ 1000000000000 →
    Calls Tryz.prog 106 #[.agg #[.string t.nm, sv]] w fun e w' => e = .returned (.int .i64 (depthT t)) ∧ Gr w w' := by
  induction t using Tm.ind with
  | h n l ih =>
    intro B w sv hB h hz
    dsimp only [Tm.args, Tm.nm] at h ⊢
    obtain ⟨p, c, rfl, hn, hc, hm, hR⟩ := h.row
    have hls := len_size l
    have hdl := Nat.le_trans (depthT_le (.mk n l)) hz
    simp only [sizeT] at hz
    simp only [depthT] at hdl
    simp only [depthT]
    have IH : Hid (∀ t ∈ l, ∀ (w : World) (v : Value), B ≤ w.heap.size → SlIn (· < B) w t.args v → sizeT t ≤ 1000000000000 → Calls Tryz.prog 106 #[.agg #[.string t.nm, v]] w fun e w' => e = .returned (.int .i64 (depthT t)) ∧ Gr w w') :=
      Lib.hid (fun t hk w v hB h hz => ih t hk B w v hB h hz)
    have NX : Hid (∀ k t, l[k]? = some t → depthL (l.take (k + 1)) = max (depthL (l.take k)) (depthT t) ∧ sizeT t ≤ 1000000000000 ∧ depthT t ≤ 1000000000000) := Lib.hid (fun k t h => by
      have := size_get h
      have := depthT_le t
      exact ⟨by exact depth_next _ _ _ h, by omega, by omega⟩)
    have GT : Hid (∀ k, depthL (l.take k) ≤ 1000000000000) := Lib.hid (fun k => by have := depthL_take l k; omega)
    have FL : Hid (depthL (l.take l.length) = depthL l) := Lib.hid (by simp)
    have HB := Lib.hid hB
    have HR := Lib.hid hR
    generalize hm' : l.length = m at *
    have HM := Lib.hid hm'
    clear ih hR h hm' hn hdl
    go_enter Tryz.func106, Tryz.ntmps106
    go_wp2_with fail
    go_loopw [3, 8] (fun d i wr => ∃ k : Nat, k ≤ m ∧ i = .int .i64 k ∧ d = .int .i64 (depthL (l.take k)) ∧ Hid (Gr (w.alloc (.cells #[.string n, .slice p m c] 27)) wr)) (fun _ i _ => m - (intOf i).toNat)
    case atStart => exact ⟨0, Nat.zero_le _, rfl, rfl, Lib.hid (Gr.refl _)⟩
    case round =>
      obtain ⟨k, hk, rfl, rfl, hg⟩ := hrel
      have hd := GT.out k
      by_cases hlt : k < m
      · obtain ⟨t, b, o, q, d, ht, rfl, hb, c1, c2, hs, hts⟩ := (HR.out.gr ((Gr.alloc _ _).trans hg.out) HB.out) k (by rw [HM.out]; exact hlt)
        obtain ⟨b0, b1, _, _, hbl⟩ := (hg.out.has (Has.new w _ _)).two
        obtain ⟨n1, n2, n3⟩ := NX.out k t ht
        have HD := Lib.hid n1
        have HT := Lib.hid ht
        have HS := Lib.hid hs
        have IT := Lib.hid (IH.out t (List.mem_of_getElem? ht))
        clear n1 ht hs
        go_wp2_with fail
        refine (IT.out _ _ (Nat.le_trans HB.out ((Gr.alloc _ _).trans (hg.out.trans (Gr.refl _))).size) (HS.out.gr (Gr.refl _) (Nat.le_trans HB.out ((Gr.alloc _ _).trans hg.out).size)) (by omega)).mono ?_
        rintro e w' ⟨rfl, g2⟩
        have hg2 := Lib.hid ((hg.out.trans (Gr.refl _)).trans g2)
        clear g2
        go_wp2_with fail
        go_roundw
        case rel => exact ⟨k + 1, by omega, by go_num, by rw [HD.out]; first | rfl | (congr 1; omega), hg2⟩
        case measure => simp [intOf]; omega
      · obtain rfl : k = m := by omega
        have HF := Lib.hid FL.out
        go_wp2_with fail
        go_ret
        exact ⟨ret_int (by rw [HF.out]; omega), (Gr.alloc _ _).trans hg.out⟩
end LigB
end Go.Proofs.YtjfgnmmcdgpiiaaGreatDoor
/- One call of the closure of gameplayerplain.Light: an atom is added to the known ones unless it is known or too deep. Conditions: a good term whose key is short; at most ten million atoms. -/
namespace Go.Proofs.YtjfgnmmcdgpiiaaGreatDoor
open Go Go.RowKit Go.Maps Go.WideMaps
namespace LigY
open Kit LexM TermM TermI TermN TermU TermE UniM UniK UniA UniD UniE UniG UniR LigM LigP LigG LigD LigQ LigE
/-- What the closure sees: the map of keys and the atoms, in the blocks behind A. -/
structure St (N K Z A : Nat) (w : World) (L : List (Tm × Value)) (M : List ByteArray) (av : Value) : Prop where
  known : Has w (A + 2) #[.map (some (A + 1))]
  cell : Has w (A + 3) #[av]
  own : OwnA (· < A) (A + 4) w L av
  map : w.ownsMap Tryz.prog 9 (plainElem (H := Unit) Tryz.prog 4) (A + 1) L.length (Dof M)
  keys : ∀ x ∈ M, x.size ≤ maxLen
  good : ∀ x ∈ L, GT N K Z x.1
/-- What stays: all blocks but some, and what came before. -/
structure Lt (ex : Nat → Prop) (a b : World) : Prop where
  os : b.os = a.os
  tape : b.tape = a.tape
  output : b.output = a.output
  size : a.heap.size ≤ b.heap.size
  block : ∀ i, i < a.heap.size → ¬ ex i → b.heap[i]? = a.heap[i]?
section
variable {ex : Nat → Prop} {a b c : World}
theorem Lt.of (h : Below a.heap.size a b) : Lt ex a b := ⟨h.os, h.tape, h.output, h.size, fun i hi _ => h.block i hi⟩
theorem Lt.trans (h : Lt ex a b) (k : Lt ex b c) : Lt ex a c := ⟨k.os.trans h.os, k.tape.trans h.tape, k.output.trans h.output, Nat.le_trans h.size k.size, fun i hi hn => (k.block i (Nat.lt_of_lt_of_le hi h.size) hn).trans (h.block i hi hn)⟩
theorem Lt.below (h : Lt ex a b) (k : Below b.heap.size b c) : Lt ex a c := h.trans (Lt.of k)
theorem Lt.grown {row : Option Nat} (h : Lt ex a b) (hg : b.grownBy c row) (hr : ∀ k, row = some k → ex k ∨ a.heap.size ≤ k) : Lt ex a c :=
  ⟨hg.os.trans h.os, hg.tape.trans h.tape, hg.output.trans h.output, Nat.le_trans h.size hg.size, fun i hi hn => (hg.block i (Nat.lt_of_lt_of_le hi h.size) (fun e => by rcases hr i e.symm with h | h; exact hn h; omega)).trans (h.block i hi hn)⟩
theorem Lt.put (h : Lt ex a b) {p : Addr} (hp : ex p.block ∨ a.heap.size ≤ p.block) (u : Value) : Lt ex a (b.setCell p u) :=
  ⟨h.os, h.tape, h.output, Nat.le_trans h.size (by simp [World.setCell]), fun i hi hn => (Below.heap_setCell _ _ _ _ (fun e => by subst e; rcases hp with h | h; exact hn h; omega)).trans (h.block i hi hn)⟩
theorem Lt.cell (h : Lt ex a b) {g o : Nat} (hg : g < a.heap.size) (hn : ¬ ex g) : b.cell? ⟨g, o, none⟩ = a.cell? ⟨g, o, none⟩ := World.cell?_of_block (w := a) (a := ⟨g, o, none⟩) (h.block g hg hn)
theorem Lt.has {g : Nat} {cs : Array Value} (h : Lt ex a b) (k : Has a g cs) (hn : ¬ ex g) : Has b g cs := by
  have hl := k.lt
  obtain ⟨t, k⟩ := k
  exact ⟨t, (h.block g hl hn).trans k⟩
theorem Lt.map {P : Program} {k : TypeId} {R : Value → Option (DataW Unit × List MemPlace)} {g n : Nat} {D : DataW Unit} (h : Lt ex a b) (m : a.ownsMap P k R g n D) (hn : ¬ ex g) : b.ownsMap P k R g n D := by
  have hl := m.lt
  obtain ⟨es, clock, hb, F, hs, hD⟩ := m
  exact ⟨es, clock, (h.block g hl hn).trans hb, F, hs, hD⟩
theorem Lt.toBelow (h : Lt ex a b) {B : Nat} (hB : B ≤ a.heap.size) (hx : ∀ i, ex i → B ≤ i) : Below B a b := ⟨h.os, h.tape, h.output, h.size, fun i hi => h.block i (by omega) (fun e => by have := hx i e; omega)⟩
end
theorem Lt.mono {ex ex' : Nat → Prop} {a b : World} (h : Lt ex a b) (hx : ∀ i, ex i → ex' i) : Lt ex' a b := ⟨h.os, h.tape, h.output, h.size, fun i hi hn => h.block i hi fun e => hn (hx i e)⟩
/-- What a call of the closure may change behind the map. -/
def exB (A : Nat) (av : Value) (b : Nat) : Prop := b = A + 3 ∨ av.ownBlock = some b
/-- What a call of the closure may change. -/
def exA (A : Nat) (av : Value) (b : Nat) : Prop := b = A + 1 ∨ b = A + 3 ∨ av.ownBlock = some b
theorem St.gr {N K Z A : Nat} {w w' : World} {L : List (Tm × Value)} {M : List ByteArray} {av : Value} (h : St N K Z A w L M av) (g : Below w.heap.size w w') : St N K Z A w' L M av :=
  ⟨h.known.step0 g, h.cell.step0 g, h.own.below g, h.map.kept (row := none) ⟨g.os, g.tape, g.output, g.size, fun i hi _ => g.block i hi⟩ (by simp), h.keys, h.good⟩
theorem set2 (xs : List Value) (a b c d : Value) (n : Nat) (h : xs.length = n) : ((xs ++ [a, b]).set n c).set (n + 1) d = xs ++ [c, d] := by
  subst h
  rw [List.set_append_right _ _ (Nat.le_refl _), Nat.sub_self, List.set_append_right _ _ (Nat.le_succ _), Nat.succ_sub (Nat.le_refl _), Nat.sub_self]
  rfl
/-- The new element is stored, then the variable. -/
theorem fin1 {A g n cap : Nat} {w9 : World} {xs : List Value} {a b s v : Value} (h : w9.ownsRow (A + 4) 27 2 (.slice (some ⟨g, 0, none⟩) (n + 1) cap) (n + 1) (xs ++ [a, b])) (hl : xs.length = n * 2) :
    ((w9.setCell ⟨g, n * 2, none⟩ s).setCell ⟨g, n * 2 + 1, none⟩ v).ownsRow (A + 4) 27 2 (.slice (some ⟨g, 0, none⟩) (n + 1) cap) (n + 1) (xs ++ [s, v]) := by
  have h1 := (h.stored (n * 2) s).1
  have h2 := (h1.stored (n * 2 + 1) v).1
  rw [set2 xs a b s v (n * 2) hl] at h2
  exact h2
theorem own_fin {A g cap : Nat} {w4 wF : World} {L : List (Tm × Value)} {av : Value} {okt : Nat → Prop} {t : Tm} {tv : Value} (h : OwnA (· < A) (A + 4) w4 L av) (hok : ∀ b, okt b → (b < A ∨ A + 4 ≤ b) ∧ b < w4.heap.size ∧ av.ownBlock ≠ some b) (ht : SlIn okt w4 t.args tv) (hn : t.nm.size ≤ maxLen)
    (hrow : wF.ownsRow (A + 4) 27 2 (.slice (some ⟨g, 0, none⟩) (L.length + 1) cap) (L.length + 1) (flatL L ++ [.string t.nm, tv])) (hF : Lt (exA A av) w4 wF) (hat : av.ownBlock = some g ∨ w4.heap.size ≤ g) :
    OwnA (· < A) (A + 4) wF (L ++ [(t, tv)]) (.slice (some ⟨g, 0, none⟩) (L.length + 1) cap) := by
  obtain ⟨h1, ok, h2, h3⟩ := h
  have fr : ∀ b o, (b < A ∨ A + 4 ≤ b) ∧ b < w4.heap.size ∧ av.ownBlock ≠ some b → wF.cell? ⟨b, o, none⟩ = w4.cell? ⟨b, o, none⟩ := fun b o hb => hF.cell hb.2.1 (fun e => by
    rcases e with e | e | e
    · omega
    · omega
    · exact hb.2.2 e)
  refine ⟨by rw [List.length_append, flatL_snoc]; exact hrow, fun b => ok b ∨ okt b, fun b hk => ?_, fun x hx => ?_⟩
  · have hb2 : (b < A ∨ A + 4 ≤ b) ∧ b < w4.heap.size ∧ av.ownBlock ≠ some b := by
      rcases hk with hk | hk
      · exact h2 b hk
      · exact hok b hk
    refine ⟨hb2.1, Nat.lt_of_lt_of_le hb2.2.1 hF.size, fun e => ?_⟩
    have e' : g = b := by simpa [Value.ownBlock] using e
    rcases hat with h | h
    · exact hb2.2.2 (by rw [h, e'])
    · omega
  · rcases List.mem_append.1 hx with hx | hx
    · exact ⟨((h3 x hx).1.frame fun b o hk => fr b o (h2 b hk)).weaken fun b hk => Or.inl hk, (h3 x hx).2⟩
    · obtain rfl := List.mem_singleton.1 hx
      exact ⟨(ht.frame fun b o hk => fr b o (hok b hk)).weaken fun b hk => Or.inr hk, hn⟩
theorem own_lt {ok0 ex : Nat → Prop} {base : Nat} {a b : World} {L : List (Tm × Value)} {v : Value} (h : OwnA ok0 base a L v) (g : Lt ex a b) (hx : ∀ i, ex i → i < base ∧ ¬ ok0 i) : OwnA ok0 base b L v := by
  obtain ⟨h1, ok, h2, h3⟩ := h
  have hl := h1.lt
  have nx : ∀ i, ok i → ¬ ex i := fun i hi e => by
    rcases (h2 i hi).1 with h | h
    · exact (hx i e).2 h
    · have := (hx i e).1; omega
  refine ⟨⟨h1.1, ?_⟩, ok, fun b hk => ⟨(h2 b hk).1, Nat.lt_of_lt_of_le (h2 b hk).2.1 g.size, (h2 b hk).2.2⟩, fun x hx' => ⟨(h3 x hx').1.frame fun b o hk => g.cell (h2 b hk).2.1 (nx b hk), (h3 x hx').2⟩⟩
  rcases h1.2 with h | ⟨k, cap, cur, e1, e2, e3, e4⟩
  · exact Or.inl h
  · have hk := hl k (by rw [e1]; rfl)
    exact Or.inr ⟨k, cap, cur, e1, e2, (g.block k hk.2 (fun e => by have := (hx k e).1; omega)).trans e3, e4⟩
theorem gt_new {N : Nat} {t : Tm} (hg : GN N t) (hd : depthT t ≤ 4) : GT N ((N + 3) * 20 ^ 4) (20 ^ 4) t := ⟨hg, by have := klen_le 4 t hg hd; omega, size_le 4 t hg hd⟩
/-- What the append of an empty element leaves: the row, one element longer, in its old block or in a new one. -/
structure App (A n : Nat) (w4 w9 : World) (xs : List Value) (av : Value) (g c : Nat) : Prop where
  row : w9.ownsRow (A + 4) 27 2 (.slice (some ⟨g, 0, none⟩) (n + 1) c) (n + 1) (xs ++ [.string ⟨#[]⟩, .slice none 0 0])
  lt : Lt (exB A av) w4 w9
  at_ : av.ownBlock = some g ∨ g = w4.heap.size + 1
  ne : g ≠ A + 3
theorem App.c0 {A n : Nat} {w4 w9 : World} {xs : List Value} {av : Value} {g c : Nat} (h : App A n w4 w9 xs av g c) (hl : xs.length = n * 2) : w9.cell? ⟨g, n * 2, none⟩ = some (.string ⟨#[]⟩) := by
  rw [h.row.cellAt _ (by omega), List.getElem?_append_right (by omega), hl, Nat.sub_self]
  rfl
theorem App.c1 {A n : Nat} {w4 w9 : World} {xs : List Value} {av : Value} {g c : Nat} (h : App A n w4 w9 xs av g c) (hl : xs.length = n * 2) : w9.cell? ⟨g, n * 2 + 1, none⟩ = some (.slice none 0 0) := by
  rw [h.row.cellAt _ (by omega), List.getElem?_append_right (by omega), hl, show n * 2 + 1 - n * 2 = 1 by omega]
  rfl
theorem App.put {A n : Nat} {w4 w9 : World} {xs : List Value} {av : Value} {g c : Nat} (h : App A n w4 w9 xs av g c) (u : Value) : App A n w4 (w9.setCell ⟨A + 3, 0, none⟩ u) xs av g c :=
  ⟨ownsRow_setCell_below h.row (by show A + 3 < A + 4; omega) u, h.lt.put (Or.inl (Or.inl rfl)) u, h.at_, h.ne⟩
theorem App.far {A n : Nat} {w4 w9 : World} {xs : List Value} {av : Value} {g c : Nat} (h : App A n w4 w9 xs av g c) {cs : Array Value} (k : Has w9 (A + 3) cs) (a b : Value) : Has ((w9.setCell ⟨g, n * 2, none⟩ a).setCell ⟨g, n * 2 + 1, none⟩ b) (A + 3) cs :=
  (k.far (p := ⟨g, n * 2, none⟩) (fun e => h.ne e.symm) a).far (p := ⟨g, n * 2 + 1, none⟩) (fun e => h.ne e.symm) b
theorem App.blk {A n : Nat} {w4 w9 : World} {xs : List Value} {av : Value} {g c : Nat} (h : App A n w4 w9 xs av g c) : exB A av g ∨ w4.heap.size ≤ g := h.at_.imp Or.inr (by omega)
/-- The element is stored, then the variable; or the other way round. -/
theorem App.fin {A n : Nat} {w4 w9 : World} {xs : List Value} {av : Value} {g c : Nat} {x nv : Value} (h : App A n w4 w9 xs av g c) (hl : xs.length = n * 2) (k : Has w9 (A + 3) #[x]) (s v : Value) :
    (Lt (exB A av) w4 (((w9.setCell ⟨g, n * 2, none⟩ s).setCell ⟨g, n * 2 + 1, none⟩ v).setCell ⟨A + 3, 0, none⟩ nv) ∧ (((w9.setCell ⟨g, n * 2, none⟩ s).setCell ⟨g, n * 2 + 1, none⟩ v).setCell ⟨A + 3, 0, none⟩ nv).ownsRow (A + 4) 27 2 (.slice (some ⟨g, 0, none⟩) (n + 1) c) (n + 1) (xs ++ [s, v]) ∧ Has (((w9.setCell ⟨g, n * 2, none⟩ s).setCell ⟨g, n * 2 + 1, none⟩ v).setCell ⟨A + 3, 0, none⟩ nv) (A + 3) #[nv]) ∧
    (Lt (exB A av) w4 (((w9.setCell ⟨A + 3, 0, none⟩ nv).setCell ⟨g, n * 2, none⟩ s).setCell ⟨g, n * 2 + 1, none⟩ v) ∧ (((w9.setCell ⟨A + 3, 0, none⟩ nv).setCell ⟨g, n * 2, none⟩ s).setCell ⟨g, n * 2 + 1, none⟩ v).ownsRow (A + 4) 27 2 (.slice (some ⟨g, 0, none⟩) (n + 1) c) (n + 1) (xs ++ [s, v]) ∧ Has (((w9.setCell ⟨A + 3, 0, none⟩ nv).setCell ⟨g, n * 2, none⟩ s).setCell ⟨g, n * 2 + 1, none⟩ v) (A + 3) #[nv]) :=
  ⟨⟨((h.lt.put h.blk s).put h.blk v).put (Or.inl (Or.inl rfl)) nv, ownsRow_setCell_below (fin1 h.row hl) (by show A + 3 < A + 4; omega) nv, (h.far k s v).set 0 nv⟩,
   ⟨((h.put nv).lt.put h.blk s).put h.blk v, fin1 (h.put nv).row hl, (h.put nv).far (k.set 0 nv) s v⟩⟩
/-- What a call of the closure leaves. -/
def AddQ (N A : Nat) (w : World) (L : List (Tm × Value)) (av : Value) (e : Ending) (w' : World) : Prop :=
  e = .returned (.tuple #[]) ∧ ∃ (L' : List (Tm × Value)) (M' : List ByteArray) (av' : Value), St N ((N + 3) * 20 ^ 4) (20 ^ 4) A w' L' M' av' ∧ L.length ≤ L'.length ∧ L'.length ≤ L.length + 1 ∧ Lt (exA A av) w w' ∧ ∀ k, av'.ownBlock = some k → av.ownBlock = some k ∨ w.heap.size ≤ k
theorem add_end {N A g c : Nat} {w w4 wF : World} {L : List (Tm × Value)} {M : List ByteArray} {av tv : Value} {t : Tm} {okt : Nat → Prop} {S : ByteArray} (hav : ∀ k, av.ownBlock = some k → A + 4 ≤ k) (L4 : Lt (exA A av) w w4) (N4 : Has w4 (A + 2) #[.map (some (A + 1))])
    (M4 : w4.ownsMap Tryz.prog 9 (plainElem (H := Unit) Tryz.prog 4) (A + 1) (L.length + 1) (Dof (M ++ [S]))) (O4 : OwnA (· < A) (A + 4) w4 L av) (hM : ∀ x ∈ M, x.size ≤ maxLen) (hL : ∀ x ∈ L, GT N ((N + 3) * 20 ^ 4) (20 ^ 4) x.1) (hS : S.size ≤ maxLen) (hG : GT N ((N + 3) * 20 ^ 4) (20 ^ 4) t)
    (hok : ∀ b, okt b → (b < A ∨ A + 4 ≤ b) ∧ b < w4.heap.size ∧ av.ownBlock ≠ some b) (ht : SlIn okt w4 t.args tv) (hn : t.nm.size ≤ maxLen) (LF : Lt (exB A av) w4 wF)
    (hrow : wF.ownsRow (A + 4) 27 2 (.slice (some ⟨g, 0, none⟩) (L.length + 1) c) (L.length + 1) (flatL L ++ [.string t.nm, tv])) (hat : av.ownBlock = some g ∨ g = w4.heap.size + 1) (hc : Has wF (A + 3) #[.slice (some ⟨g, 0, none⟩) (L.length + 1) c]) :
    AddQ N A w L av (.returned (.tuple #[])) wF := by
  have hw := L4.size
  have nb : ∀ i, i = A + 1 ∨ i = A + 2 → ¬ exB A av i := fun i hi e => by
    rcases e with e | e
    · omega
    · have := hav i e; omega
  refine ⟨rfl, L ++ [(t, tv)], M ++ [S], .slice (some ⟨g, 0, none⟩) (L.length + 1) c, ⟨LF.has N4 (nb _ (Or.inr rfl)), hc, own_fin O4 hok ht hn hrow (LF.mono fun i e => Or.inr e) (hat.imp id (by omega)), ?_, ?_, ?_⟩, by simp, by simp, L4.trans (LF.mono fun i e => Or.inr e), fun k e => ?_⟩
  · rw [List.length_append]
    exact LF.map M4 (nb _ (Or.inl rfl))
  · intro x hx
    rcases List.mem_append.1 hx with hx | hx
    · exact hM x hx
    · obtain rfl := List.mem_singleton.1 hx
      exact hS
  · intro x hx
    rcases List.mem_append.1 hx with hx | hx
    · exact hL x hx
    · obtain rfl := List.mem_singleton.1 hx
      exact hG
  · have e' : g = k := by simpa [Value.ownBlock] using e
    subst e'
    exact hat.imp id (by omega)
set_option maxRecDepth 100000 in
set_option maxHeartbeats 3200000 in
theorem add_any (N A : Nat) (w : World) (L : List (Tm × Value)) (M : List ByteArray) (av : Value) (h : St N ((N + 3) * 20 ^ 4) (20 ^ 4) A w L M av) (hl : L.length ≤ 10000000) (t : Tm) (tv : Value) (okt : Nat → Prop) (hok : ∀ b, okt b → (b < A ∨ A + 4 ≤ b) ∧ b < w.heap.size ∧ av.ownBlock ≠ some b)
    (ht : SlIn okt w t.args tv) (hn : t.nm.size ≤ maxLen) (hg : GN N t) (hk : klen t ≤ 4611686018427387904) (hz : sizeT t ≤ 1000000000000) :
    Calls Tryz.prog 104 #[.agg #[.string t.nm, tv], .pointer (some ⟨A + 2, 0, none⟩), .pointer (some ⟨A + 3, 0, none⟩)] w (AddQ N A w L av) := by
  obtain ⟨i0, hi, hz0, hz1, hz2⟩ := info_parts Tryz.info28
  obtain ⟨p, c, rfl⟩ := ht.form
  obtain ⟨va, vc, rfl⟩ := h.own.form
  have hA : A + 4 ≤ w.heap.size := h.cell.lt
  obtain ⟨W1, hW1⟩ : ∃ W1, W1 = w.alloc (.cells #[.string t.nm, .slice p t.args.length c] 27) := ⟨_, rfl⟩
  have G1 : Hid (Below w.heap.size w W1) := Lib.hid (by rw [hW1]; exact below_alloc _ _)
  have T1 : Hid (Has W1 w.heap.size #[.string t.nm, .slice p t.args.length c]) := Lib.hid (by rw [hW1]; exact Has.new _ _ _)
  have hk2 := hk
  have FT := Lib.hid (fun w' (g : Below w.heap.size w w') => ht.frame (w' := w') fun b o hb => g.cell (p := ⟨b, o, none⟩) (hok b hb).2.1)
  have CK := Lib.hid (fun w' (g : Below w.heap.size w w') => LigC.key_any t w.heap.size w' _ g.size ((FT.out w' g).weaken fun b hb => (hok b hb).2.1) hk2)
  have CL := Lib.hid (fun w' (g : Below w.heap.size w w') => LigB.levels_any t w.heap.size w' _ g.size ((FT.out w' g).weaken fun b hb => (hok b hb).2.1) hz)
  have SS := Lib.hid (fun w' (g : Below w.heap.size w w') => h.gr g)
  have OL := Lib.hid h.own.1.lt
  have HK := Lib.hid (And.intro hk hn)
  have HG := Lib.hid (gt_new (t := t) hg)
  have HOK := Lib.hid hok
  have hA1 := Lib.hid hA
  generalize hn' : t.nm = n at *
  have HN := Lib.hid hn'
  generalize ha' : t.args.length = a at *
  have HA := Lib.hid ha'
  clear h hok ht hn hk hz hk2 hg hn' ha'
  obtain ⟨x1, x2, x3, x4, x5⟩ := T1.out.two
  go_enter Tryz.func104, Tryz.ntmps104
  go_upto_region 1 with fail
  rw [← hW1]
  clear hW1
  go_wp2_with fail
  refine (CK.out _ G1.out).mono ?_
  rintro e w2 ⟨S, rfl, hS, g2⟩
  have D2 := Lib.hid (next0 G1.out g2.1)
  have T2 := Lib.hid (T1.out.step0 g2.1)
  have S2 := Lib.hid (SS.out w2 D2.out)
  have hSz : S.size ≤ maxLen := by have := HK.out.1; unfold maxLen; omega
  have LK := look_bool S2.out.map S2.out.keys S hSz
  have HKS : keyOf Tryz.prog 9 (.string S) = some (.string S.data.toList) := keyOf_string_mk Tryz.underlying9 hSz
  have k1 := S2.out.known.cell 0
  have k2 := S2.out.known.free 0
  have k3 := S2.out.known.lt
  clear x1 x2 x3 x4 x5 g2 T1 CK hS
  obtain ⟨x1, x2, x3, x4, x5⟩ := T2.out.two
  cases hh : hasB M S
  · rw [hh] at LK
    go_wp2_with fail
    refine (CL.out _ (by first | exact D2.out | exact D2.out.drew | exact below_drewN D2.out _)).mono ?_
    rintro e w3 ⟨rfl, g3⟩
    have W3 : Hid (Below w2.heap.size w2 w3) := Lib.hid (by first | exact g3.1 | exact next0 (Below.refl _ _).drew g3.1 | exact next0 (below_drewN (Below.refl _ _) _) g3.1)
    have D3 := Lib.hid (next0 D2.out W3.out)
    have T3 := Lib.hid (T2.out.step0 W3.out)
    have S3 := Lib.hid (SS.out w3 D3.out)
    clear x1 x2 x3 x4 x5 k1 k2 k3 g3 LK CL T2
    have k1 := S3.out.known.cell 0
    have k2 := S3.out.known.free 0
    have k3 := S3.out.known.lt
    obtain ⟨x1, x2, x3, x4, x5⟩ := T3.out.two
    have A0 : L.length < maxLen := by unfold maxLen; omega
    by_cases hd : depthT t ≤ 4
    · have hdi : ((depthT t : Nat) : Int) ≤ 4 := by omega
      have HG4 := Lib.hid (HG.out hd)
      have D0 := Lib.hid (Dof_snoc M S)
      have SM := Lib.hid S3.out.map
      go_upto_region 4 with (at_mapUpdate; refine wpList_mapUpdate_own _ rfl _ _ _ 92 rfl 9 4 law Tryz.underlying92 _ (A + 1) L.length _ rfl SM.out A0 _ _ _ rfl rfl HKS _ [] (plainElem_bool (H := Unit) Tryz.underlying4 true) ?_; intro w4 hown4 hgrow4)
      have M4 := Lib.hid (by rw [← D0.out] at hown4; exact hown4)
      have X4 : Hid (Lt (· = A + 1) w3 w4) := Lib.hid ((Lt.of (Below.refl _ _)).grown hgrow4 (fun k e => Or.inl (by cases e; rfl)))
      have T4 := Lib.hid (X4.out.has T3.out (by omega))
      have C4 := Lib.hid (X4.out.has S3.out.cell (by omega))
      have N4 := Lib.hid (X4.out.has S3.out.known (by omega))
      have O4 := Lib.hid (own_lt S3.out.own X4.out (fun i e => by subst e; exact ⟨by omega, by omega⟩))
      have B4 := Lib.hid (And.intro S3.out.keys S3.out.good)
      have TT4 := Lib.hid ((FT.out w3 D3.out).frame (w' := w4) fun b o hb => X4.out.cell (Nat.lt_of_lt_of_le (HOK.out b hb).2.1 D3.out.size) (fun e => by have := (HOK.out b hb).1; omega))
      have L4 : Hid (Lt (exA A (.slice va L.length vc)) w w4) := Lib.hid ((Lt.of D3.out).grown hgrow4 (fun k e => Or.inl (Or.inl (by cases e; rfl))))
      clear hown4 hgrow4 k1 k2 k3 x1 x2 x3 x4 x5 SM T3 S3 D0 hd hdi
      have hA4 : A + 4 ≤ w4.heap.size := C4.out.lt
      have hw4 : w.heap.size ≤ w4.heap.size := L4.out.size
      obtain ⟨x1, x2, x3, x4, x5⟩ := T4.out.two
      have c1 := C4.out.cell 0
      have c2 := C4.out.free 0
      have c3 := C4.out.lt
      have A1 : L.length + 1 ≤ maxLen := by unfold maxLen; omega
      have A2 : (L.length + 1) * 40 ≤ 140737488355328 := by omega
      have hzb : A + 4 ≤ (w4.alloc (.cells #[.string ⟨#[]⟩, .slice none 0 0] 27)).heap.size := by simp; omega
      have nv1 : (Value.slice va L.length vc).ownBlock ≠ some (A + 3) := fun e => by have := OL.out _ e; omega
      have hxn : ∀ k, (Value.slice va L.length vc).ownBlock = some k → k ≠ w.heap.size := fun k e => by have := OL.out _ e; omega
      have hlt1 : ((L.length : Int) < (L.length : Int) + 1) := by omega
      have hne3 : ∀ k, (Value.slice va L.length vc).ownBlock = some k ∨ k = w4.heap.size + 1 → k ≠ A + 3 := fun k e => by
        rcases e with e | e
        · have := OL.out _ e; omega
        · omega
      have HN3 := Lib.hid hne3
      have hflat := flatL_len L
      have HFL := Lib.hid hflat
      clear hne3 hflat
      go_wp2_with fail
      go_region_law (first
        | (refine step_append_lies _ rfl _ _ 25 rfl (A + 4) 27 i0 (.agg #[.string ⟨#[]⟩, .slice none 0 0]) 2 40 Tryz.underlying25 hi hz0 hz1 hz2 rfl (by decide) (.slice va L.length vc) L.length (flatL L) rfl (O4.out.1.alloc _) ⟨w4.heap.size, 0, none⟩ 1 1 [.string ⟨#[]⟩, .slice none 0 0] rfl rfl (news2 _ _ _ _) (one2 _ _ _ _) (by decide) A1 A2 hzb (w4.heap.size + 1) (by simp) ?_; (intro g9 c9 w9 hown hgrow hat hlt9; have P9 := Lib.hid (App.mk hown ((Lt.of (below_alloc w4 (.cells #[.string ⟨#[]⟩, .slice none 0 0] 27)).drew).grown hgrow (fun k e => Or.inl (Or.inr e))) hat (HN3.out g9 hat)); have C9 := Lib.hid (UniD.Has.grown (C4.out.alloc _).drew hgrow nv1); have T9 := Lib.hid (UniD.Has.grown (T4.out.alloc _).drew hgrow (fun e => hxn _ e rfl)); obtain ⟨v1, v2, v3, v4, v5⟩ := T9.out.two; have r1 := App.c0 P9.out HFL.out; have r2 := App.c1 P9.out HFL.out; have r3 := hown.frozenAt (L.length * 2); have r4 := hown.frozenAt (L.length * 2 + 1); have PU := Lib.hid (fun u => App.put P9.out u); have s1 := fun u => App.c0 (PU.out u) HFL.out; have s2 := fun u => App.c1 (PU.out u) HFL.out; have s3 := fun u => (PU.out u).row.frozenAt (L.length * 2); have s4 := fun u => (PU.out u).row.frozenAt (L.length * 2 + 1); have e1 := C9.out.cell 0; have e2 := C9.out.free 0; have e3 := C9.out.lt; have CF := Lib.hid (App.far P9.out C9.out); have e4 := fun a b => (CF.out a b).cell 0; have e5 := fun a b => (CF.out a b).free 0; clear hown hgrow hat)))
      all_goals
        go_wp2_with fail
        refine bodyPost_ret (v := .tuple #[]) (by simp [results, Tryz.results104, go_sem]) rfl ?_
        have AF := App.fin (nv := .slice (some ⟨g9, 0, none⟩) (L.length + 1) c9) P9.out HFL.out C9.out (.string n) (.slice p a c)
        have hokw : ∀ b, okt b → (b < A ∨ A + 4 ≤ b) ∧ b < w4.heap.size ∧ (Value.slice va L.length vc).ownBlock ≠ some b := fun b hb => ⟨(HOK.out b hb).1, Nat.lt_of_lt_of_le (HOK.out b hb).2.1 hw4, (HOK.out b hb).2.2⟩
        first
          | exact add_end (t := t) (fun k e => (OL.out k e).1) L4.out N4.out M4.out O4.out B4.out.1 B4.out.2 hSz HG4.out hokw (by rw [HA.out] at TT4; exact TT4.out) (by rw [HN.out]; exact HK.out.2) AF.1.1 (by rw [HN.out]; exact AF.1.2.1) P9.out.at_ AF.1.2.2
          | exact add_end (t := t) (fun k e => (OL.out k e).1) L4.out N4.out M4.out O4.out B4.out.1 B4.out.2 hSz HG4.out hokw TT4.out (by rw [HN.out]; exact HK.out.2) AF.1.1 (by rw [HN.out]; exact AF.1.2.1) P9.out.at_ AF.1.2.2
          | exact add_end (t := t) (fun k e => (OL.out k e).1) L4.out N4.out M4.out O4.out B4.out.1 B4.out.2 hSz HG4.out hokw TT4.out (by rw [HN.out]; exact HK.out.2) AF.2.1 (by rw [HN.out]; exact AF.2.2.1) P9.out.at_ AF.2.2.2
    · have hdi : ¬ ((depthT t : Nat) : Int) ≤ 4 := by omega
      go_wp2_with fail
      refine bodyPost_ret (v := .tuple #[]) (by simp [results, Tryz.results104, go_sem]) rfl ?_
      exact ⟨rfl, L, M, _, S3.out, Nat.le_refl _, Nat.le_succ _, Lt.of D3.out, fun k hk => Or.inl hk⟩
  · rw [hh] at LK
    go_wp2_with fail
    refine bodyPost_ret (v := .tuple #[]) (by simp [results, Tryz.results104, go_sem]) rfl ?_
    exact ⟨rfl, L, M, _, S2.out, Nat.le_refl _, Nat.le_succ _, Lt.of D2.out, fun k hk => Or.inl hk⟩
end LigY
end Go.Proofs.YtjfgnmmcdgpiiaaGreatDoor
/- Rows of literals of the call's own, whose terms lie in blocks of a kind or in new ones. No conditions. -/
namespace Go.Proofs.YtjfgnmmcdgpiiaaGreatDoor
open Go Go.RowKit
namespace UnqA
open LexM TermM TermI Kit TermN TermU UniK UniM LigY
/-- As OwnG, with a kind for what is behind the elements. -/
def OwnX {α : Type} (K : Kd α) (ok0 : Nat → Prop) (base : Nat) (w : World) (L : List α) (v : Value) : Prop :=
  w.ownsRow base K.ty 3 v L.length (K.flat L) ∧ ∃ ok : Nat → Prop, (∀ b, ok b → (ok0 b ∨ base ≤ b) ∧ b < w.heap.size ∧ v.ownBlock ≠ some b) ∧ ∀ x ∈ L, K.inn ok w x
section
variable {α : Type} {K : Kd α} {ok0 : Nat → Prop} {base : Nat} {w w' : World} {L : List α} {v : Value}
theorem OwnX.nil (ok0 : Nat → Prop) (base : Nat) (w : World) : OwnX K ok0 base w [] (.slice none 0 0) :=
  ⟨⟨rfl, Or.inl ⟨rfl, rfl⟩⟩, fun _ => False, fun b h => h.elim, fun x h => by simp at h⟩
theorem OwnX.form (h : OwnX K ok0 base w L v) : ∃ a c, v = .slice a L.length c := by
  rcases h.1.2 with ⟨e, hz⟩ | ⟨g, cap, cur, e, _⟩
  · exact ⟨none, 0, by rw [e, hz]⟩
  · exact ⟨_, cap, e⟩
theorem OwnX.lt {ex : Nat → Prop} (h : OwnX K ok0 base w L v) (g : Lt ex w w') (hx : ∀ i, ex i → i < base ∧ ¬ ok0 i) : OwnX K ok0 base w' L v := by
  obtain ⟨h1, ok, h2, h3⟩ := h
  have hl := h1.lt
  have nx : ∀ i, ok i → ¬ ex i := fun i hi e => by
    rcases (h2 i hi).1 with h | h
    · exact (hx i e).2 h
    · have := (hx i e).1; omega
  refine ⟨⟨h1.1, ?_⟩, ok, fun b hk => ⟨(h2 b hk).1, Nat.lt_of_lt_of_le (h2 b hk).2.1 g.size, (h2 b hk).2.2⟩, fun x hx' => K.keep (h3 x hx') fun b o hk => g.cell (h2 b hk).2.1 (nx b hk)⟩
  rcases h1.2 with h | ⟨k, cap, cur, e1, e2, e3, e4⟩
  · exact Or.inl h
  · have hk := hl k (by rw [e1]; rfl)
    exact Or.inr ⟨k, cap, cur, e1, e2, (g.block k hk.2 (fun e => by have := (hx k e).1; omega)).trans e3, e4⟩
theorem OwnX.below (h : OwnX K ok0 base w L v) (g : Below w.heap.size w w') : OwnX K ok0 base w' L v := h.lt (ex := fun _ => False) (Lt.of g) fun _ e => e.elim
theorem OwnX.add {w2 w3 : World} {g cap : Nat} {x : α} {ok' : Nat → Prop} (h : OwnX K ok0 base w2 L v) (hs : K.inn ok' w2 x) (hok : ∀ b, ok' b → (ok0 b ∨ base ≤ b) ∧ b < w2.heap.size ∧ v.ownBlock ≠ some b)
    (hown : w3.ownsRow base K.ty 3 (.slice (some ⟨g, 0, none⟩) (L.length + 1) cap) (L.length + 1) (K.flat L ++ K.cells x)) (hlt : Lt (fun b => v.ownBlock = some b) w2 w3) (hat : v.ownBlock = some g ∨ w2.heap.size ≤ g) :
    OwnX K ok0 base w3 (L ++ [x]) (.slice (some ⟨g, 0, none⟩) (L.length + 1) cap) := by
  obtain ⟨h1, ok, h2, h3⟩ := h
  refine ⟨by rw [List.length_append, flat_app, flat_one]; exact hown, fun b => ok b ∨ ok' b, fun b hk => ?_, fun y hy => ?_⟩
  · have hb2 : (ok0 b ∨ base ≤ b) ∧ b < w2.heap.size ∧ v.ownBlock ≠ some b := by
      rcases hk with hk | hk
      · exact h2 b hk
      · exact hok b hk
    refine ⟨hb2.1, Nat.lt_of_lt_of_le hb2.2.1 hlt.size, fun e => ?_⟩
    have e' : g = b := by simpa [Value.ownBlock] using e
    rcases hat with h | h
    · exact hb2.2.2 (by rw [h, e'])
    · omega
  · rcases List.mem_append.1 hy with hy | hy
    · exact K.wide (K.keep (h3 y hy) fun b o hk => hlt.cell (h2 b hk).2.1 (h2 b hk).2.2) fun b hk => Or.inl hk
    · obtain rfl := List.mem_singleton.1 hy
      exact K.wide (K.keep hs fun b o hk => hlt.cell (hok b hk).2.1 (hok b hk).2.2) fun b hk => Or.inr hk
theorem OwnX.row (h : OwnX K ok0 base w L v) : RowG K (fun b => ok0 b ∨ (base ≤ b ∧ b < w.heap.size)) w L v := by
  obtain ⟨h1, ok, h2, h3⟩ := h
  have hl := h1.lt
  have h3' : ∀ x ∈ L, K.inn (fun b => ok0 b ∨ (base ≤ b ∧ b < w.heap.size)) w x := fun x hx => K.wide (h3 x hx) fun b hk => (h2 b hk).1.imp id fun h => ⟨h, (h2 b hk).2.1⟩
  rcases h1.2 with ⟨e, hz⟩ | ⟨g, cap, cur, e, e2, e3, e4, e5, _⟩
  · exact ⟨none, 0, by rw [e, hz], by omega, Nat.zero_le _, h3', fun h => by omega⟩
  · subst e
    refine ⟨_, cap, rfl, e4, e5, h3', fun _ => ⟨g, 0, rfl, Or.inr (hl g rfl), fun i x hx j u hu => ?_⟩⟩
    have hi := (List.getElem?_eq_some_iff.1 hx).1
    have hj := (List.getElem?_eq_some_iff.1 hu).1
    rw [K.len] at hj
    rw [show 0 + i * 3 + j = i * 3 + j by omega]
    exact (h1.cellAt _ (by omega)).trans (flat_get L i x hx j u hu)
end
/-- What comes of a literal. -/
def atomsL (φ : Tm → Tm) (l : List Lt) : List Lt := l.map fun x => (x.1, φ x.2)
theorem atoms_next {φ : Tm → Tm} {l : List Lt} {k : Nat} {x : Lt} (h : l[k]? = some x) : atomsL φ (l.take (k + 1)) = atomsL φ (l.take k) ++ [(x.1, φ x.2)] := by
  unfold atomsL
  rw [take_get l k x h, List.map_append]
  rfl
/-- What a rule's replacement leaves; what it holds lies in blocks of the kind or in new ones. -/
def RuX (ok0 : Nat → Prop) (h : Tm) (l : List Lt) (w : World) (e : Ending) (w' : World) : Prop :=
  ∃ (q : Option Addr) (d : Nat) (v : Value), e = .returned (.agg #[.string h.nm, .slice q h.args.length d, v]) ∧ SlIn (fun b => ok0 b ∨ (w.heap.size ≤ b ∧ b < w'.heap.size)) w' h.args (.slice q h.args.length d) ∧ LIn (fun b => ok0 b ∨ (w.heap.size ≤ b ∧ b < w'.heap.size)) w' l v ∧ h.nm.size ≤ maxLen ∧ Below w.heap.size w w'
end UnqA
end Go.Proofs.YtjfgnmmcdgpiiaaGreatDoor
/- gameplayerplain.Rule: equality of rules. No conditions. -/
namespace Go.Proofs.YtjfgnmmcdgpiiaaGreatDoor
open Go Go.RowKit
namespace UnpP
open Kit LexM TermM TermI TermU UniK UniM TermEq
theorem has3 {w : World} {g : Nat} {a b c : Value} (h : Has w g #[a, b, c]) : w.cell? ⟨g, 0, none⟩ = some a ∧ w.cell? ⟨g, 1, none⟩ = some b ∧ w.cell? ⟨g, 2, none⟩ = some c ∧ w.frozen? ⟨g, 0, none⟩ = false ∧ w.frozen? ⟨g, 1, none⟩ = false ∧ w.frozen? ⟨g, 2, none⟩ = false ∧ g < w.heap.size :=
  ⟨h.cell 0, h.cell 1, h.cell 2, h.free 0, h.free 1, h.free 2, h.lt⟩
theorem drop_get {α : Type} {l : List α} {i : Nat} {x : α} (h : l[i]? = some x) : l.drop i = x :: l.drop (i + 1) := by
  obtain ⟨hi, rfl⟩ := List.getElem?_eq_some_iff.1 h
  exact List.drop_eq_getElem_cons hi
def EqT (x : Tm) : Prop := ∀ (R : Bool) (B : Nat) (w : World) (sv : Value) (y : Tm) (sv' : Value), (R = true ↔ x = y) → B ≤ w.heap.size → SlIn (· < B) w x.args sv → SlIn (· < B) w y.args sv' →
  Calls Tryz.prog 18 #[.agg #[.string x.nm, sv], .agg #[.string y.nm, sv']] w fun e w' => e = .returned (.bool R) ∧ Gr w w'
theorem gr_dr {a b : World} (h : Gr a b) : Gr a b.drew := h.trans (Gr.drew b)
/-- The literals of a list, three cells each. -/
def RowL (B : Nat) (w : World) (l : List Lt) (p : Option Addr) : Prop := ∀ k, k < l.length → ∃ t b o q d, l[k]? = some t ∧ p = some ⟨b, o, none⟩ ∧ b < B ∧ w.cell? ⟨b, o + k * 3, none⟩ = some (.bool t.1) ∧ w.cell? ⟨b, o + k * 3 + 1, none⟩ = some (.string t.2.nm) ∧
  w.cell? ⟨b, o + k * 3 + 1 + 1, none⟩ = some (.slice q t.2.args.length d) ∧ SlIn (· < B) w t.2.args (.slice q t.2.args.length d) ∧ t.2.nm.size ≤ maxLen
theorem LIn.row {B : Nat} {w : World} {l : List Lt} {v : Value} (h : LIn (· < B) w l v) : ∃ p c, v = .slice p l.length c ∧ l.length ≤ c ∧ c ≤ maxLen ∧ RowL B w l p := by
  obtain ⟨L, rfl, p, c, e, h1, h2, h3, h4⟩ := h
  refine ⟨p, c, by rw [e]; simp, by simpa using h1, h2, fun k hk => ?_⟩
  have hk' : k < L.length := by simpa using hk
  obtain ⟨g, o, e1, e2, e3⟩ := h4 (by omega)
  obtain ⟨x, hx⟩ : ∃ x, L[k]? = some x := ⟨L[k], by simp [hk']⟩
  obtain ⟨s1, s2⟩ := h3 x (List.mem_of_getElem? hx)
  obtain ⟨q, d, eq⟩ := s1.form
  refine ⟨x.1, g, o, q, d, by simp [hx], e1, e2, e3 k x hx 0 _ rfl, e3 k x hx 1 _ rfl, ?_, by rw [← eq]; exact s1, s2⟩
  rw [← eq]
  exact e3 k x hx 2 _ rfl
theorem RowL.gr {B : Nat} {w w' : World} {l : List Lt} {p : Option Addr} (h : RowL B w l p) (g : Gr w w') (hB : B ≤ w.heap.size) : RowL B w' l p := fun k hk => by
  obtain ⟨t, b, o, q, d, h1, h2, h3, h4, h5, h6, h7, h8⟩ := h k hk
  exact ⟨t, b, o, q, d, h1, h2, h3, (g.cell (Nat.lt_of_lt_of_le h3 hB)).trans h4, (g.cell (Nat.lt_of_lt_of_le h3 hB)).trans h5, (g.cell (Nat.lt_of_lt_of_le h3 hB)).trans h6, h7.gr g hB, h8⟩
theorem eq_atL {l r : List Lt} {k : Nat} {x y : Lt} (h : l[k]? = some x) (h' : r[k]? = some y) : l.drop k = r.drop k ↔ (x.1 = y.1 ∧ x.2 = y.2) ∧ l.drop (k + 1) = r.drop (k + 1) := by
  rw [drop_get h, drop_get h']; simp [Prod.ext_iff]
theorem eq_endL {l r : List Lt} {k : Nat} (h : l.length ≤ k) (h' : r.length ≤ k) : l.drop k = r.drop k := by
  rw [List.drop_eq_nil_of_le h, List.drop_eq_nil_of_le h']
set_option maxRecDepth 100000 in
set_option maxHeartbeats 6400000 in
theorem rule_eq (x y : Tm) (l r : List Lt) (R : Bool) (hRR : R = true ↔ x = y ∧ l = r) (B : Nat) (w : World) (sv sv' v v' : Value) (hB : B ≤ w.heap.size)
    (hx : SlIn (· < B) w x.args sv) (hy : SlIn (· < B) w y.args sv') (h : LIn (· < B) w l v) (h' : LIn (· < B) w r v') :
    Calls Tryz.prog 22 #[.agg #[.string x.nm, sv, v], .agg #[.string y.nm, sv', v']] w fun e w' => e = .returned (.bool R) ∧ Gr w w' := by
  obtain ⟨p, c, rfl, hc, hm, hR⟩ := LIn.row h
  obtain ⟨p', c', rfl, hc', hm', hR'⟩ := LIn.row h'
  obtain ⟨W2, hW2⟩ : ∃ W2, W2 = (w.alloc (.cells #[.string x.nm, sv, .slice p l.length c] 34)).alloc (.cells #[.string y.nm, sv', .slice p' r.length c'] 34) := ⟨_, rfl⟩
  have G2 : Gr w W2 := by rw [hW2]; exact (Gr.alloc _ _).more _
  have H2 : Hid (Has W2 w.heap.size #[.string x.nm, sv, .slice p l.length c]) := Lib.hid (by rw [hW2]; exact (Has.new w _ _).alloc _)
  have H2' : Hid (Has W2 (w.heap.size + 1) #[.string y.nm, sv', .slice p' r.length c']) := Lib.hid (by rw [hW2]; exact Has.new1 w _ _ _)
  have hB2 : B ≤ W2.heap.size := Nat.le_trans hB G2.size
  have hlf : l.length ≤ 9223372036854775807 := Nat.le_trans hc hm
  have hlf' : r.length ≤ 9223372036854775807 := Nat.le_trans hc' hm'
  obtain ⟨z, hz⟩ : ∃ z : Bool, Hid (z = true ↔ x = y) := ⟨decide (cmpT x y = 0), Lib.hid (by rw [decide_eq_true_iff]; exact cmp_zero x y)⟩
  have HT := Lib.hid (term_any x z B W2 sv y sv' hz.out hB2 (hx.gr G2 hB) (hy.gr G2 hB))
  have HG := Lib.hid G2
  have HR := Lib.hid (hR.gr G2 hB)
  have HR' := Lib.hid (hR'.gr G2 hB)
  have HB := Lib.hid hB2
  have HQ := Lib.hid hRR
  have L1 := Lib.hid (fun k x y h h' => eq_atL (l := l) (r := r) (k := k) (x := x) (y := y) h h')
  have L3 := Lib.hid (fun k h h' => eq_endL (l := l) (r := r) (k := k) h h')
  generalize hlm : l.length = m at *
  generalize hrm : r.length = m' at *
  have HM := Lib.hid hlm
  have HM' := Lib.hid hrm
  generalize x.nm = xn at *
  generalize y.nm = yn at *
  obtain ⟨a1, a2, a3, a4, a5, a6, a7⟩ := has3 H2.out
  obtain ⟨b1, b2, b3, b4, b5, b6, b7⟩ := has3 H2'.out
  clear hRR hx hy h h' hR hR' hc hc' hm hm' hlm hrm hB2 hB G2
  go_enter Tryz.func22, Tryz.ntmps22
  go_upto_region 1 with fail
  rw [← hW2]
  clear hW2
  cases z
  · have HF : Hid (R = false) := Lib.hid (b_iff_false HQ.out (fun hh => by have := hz.out.2 hh.1; simp at this))
    go_wp2_with fail
    refine HT.out.mono ?_
    rintro e w3 ⟨rfl, g3⟩
    have G3 := Lib.hid g3
    clear g3
    go_wp2_with fail
    go_ret
    exact ⟨TermEq.ret_bool HF.out.symm, HG.out.trans G3.out⟩
  · have HQ2 : Hid (R = true ↔ l = r) := Lib.hid (HQ.out.trans ⟨fun hh => hh.2, fun hh => ⟨hz.out.1 rfl, hh⟩⟩)
    clear HQ hz
    go_wp2_with fail
    refine HT.out.mono ?_
    rintro e w3 ⟨rfl, g3⟩
    have G3 := Lib.hid g3
    have HH := Lib.hid (H2.out.step0 g3.1)
    have HH' := Lib.hid (H2'.out.step0 g3.1)
    have KR3 := Lib.hid (HR.out.gr g3 HB.out)
    have KR3' := Lib.hid (HR'.out.gr g3 HB.out)
    have hB3 := Lib.hid (Nat.le_trans HB.out g3.size)
    clear g3 a1 a2 a3 a4 a5 a6 a7 b1 b2 b3 b4 b5 b6 b7 HT
    obtain ⟨a1, a2, a3, a4, a5, a6, a7⟩ := has3 HH.out
    obtain ⟨b1, b2, b3, b4, b5, b6, b7⟩ := has3 HH'.out
    by_cases hmm : m = m'
    · subst hmm
      have L0 : Hid (R = true ↔ l.drop 0 = r.drop 0) := Lib.hid (by simpa using HQ2.out)
      go_wp2_with fail
      go_loopw [24] (fun i wr => ∃ k : Nat, k ≤ m ∧ i = .int .i64 k ∧ Hid (R = true ↔ l.drop k = r.drop k) ∧ Hid (Gr w3 wr)) (fun i _ => m - (intOf i).toNat)
      case atStart => exact ⟨0, Nat.zero_le _, rfl, L0, Lib.hid (Gr.refl _)⟩
      case round =>
        obtain ⟨k, hk, rfl, hA, hg⟩ := hrel
        clear a1 a2 a3 a4 a5 a6 a7 b1 b2 b3 b4 b5 b6 b7
        obtain ⟨a1, a2, a3, a4, a5, a6, a7⟩ := has3 (HH.out.step0 hg.out.1)
        obtain ⟨b1, b2, b3, b4, b5, b6, b7⟩ := has3 (HH'.out.step0 hg.out.1)
        by_cases hlt : k < m
        · obtain ⟨t, b, o, q, d, ht, rfl, hb, c1, c2, c3, hs, hts⟩ := (KR3.out.gr hg.out hB3.out) k (by rw [HM.out]; exact hlt)
          obtain ⟨t', b', o', q', d', ht', rfl, hb', c1', c2', c3', hs', hts'⟩ := (KR3'.out.gr hg.out hB3.out) k (by rw [HM'.out]; exact hlt)
          have N1 := Lib.hid (hA.out.trans (L1.out k t t' ht ht'))
          have hgw : w.heap.size < wr.heap.size := a7
          have hgw' : w.heap.size + 1 < wr.heap.size := b7
          have hgb : b < wr.heap.size := Nat.lt_of_lt_of_le hb (Nat.le_trans hB3.out hg.out.size)
          have hgb' : b' < wr.heap.size := Nat.lt_of_lt_of_le hb' (Nat.le_trans hB3.out hg.out.size)
          obtain ⟨z, hz⟩ : ∃ z : Bool, Hid (z = true ↔ t.2 = t'.2) := ⟨decide (cmpT t.2 t'.2 = 0), Lib.hid (by rw [decide_eq_true_iff]; exact cmp_zero t.2 t'.2)⟩
          have KK := Lib.hid (fun w2 (g : Gr wr w2) => term_any t.2 z B w2 _ t'.2 _ hz.out (Nat.le_trans hB3.out (hg.out.trans g).size) (hs.gr g (Nat.le_trans hB3.out hg.out.size)) (hs'.gr g (Nat.le_trans hB3.out hg.out.size)))
          have TOT := Lib.hid ((HG.out.trans G3.out).trans hg.out)
          clear hs hs' hts hts' ht ht' hA HH HH' KR3 KR3' hB3 hb hb' L0 HR HR' HB H2 H2' L1
          generalize t.2.nm = tn at *
          generalize t'.2.nm = tn' at *
          generalize t.2.args.length = ta at *
          generalize t'.2.args.length = ta' at *
          generalize t.1 = tb at *
          generalize t'.1 = tb' at *
          have Hb : Hid (∀ w', Gr wr w' → w'.cell? ⟨w.heap.size, 2, none⟩ = some (.slice (some ⟨b, o, none⟩) m c) ∧ w'.cell? ⟨w.heap.size + 1, 2, none⟩ = some (.slice (some ⟨b', o', none⟩) m c') ∧ w'.cell? ⟨b, o + k * 3, none⟩ = some (.bool tb) ∧ w'.cell? ⟨b, o + k * 3 + 1, none⟩ = some (.string tn) ∧ w'.cell? ⟨b, o + k * 3 + 1 + 1, none⟩ = some (.slice q ta d) ∧ w'.cell? ⟨b', o' + k * 3, none⟩ = some (.bool tb') ∧ w'.cell? ⟨b', o' + k * 3 + 1, none⟩ = some (.string tn') ∧ w'.cell? ⟨b', o' + k * 3 + 1 + 1, none⟩ = some (.slice q' ta' d') ∧ Hid (Gr wr w')) := Lib.hid (fun w' g => ⟨(g.cell hgw).trans a3, (g.cell hgw').trans b3, (g.cell hgb).trans c1, (g.cell hgb).trans c2, (g.cell hgb).trans c3, (g.cell hgb').trans c1', (g.cell hgb').trans c2', (g.cell hgb').trans c3', Lib.hid g⟩)
          by_cases hbb : tb = tb'
          · subst hbb
            cases tb
            case false =>
              have hs0 := Hb.out _ (Gr.refl wr)
              have N2 : Hid (R = true ↔ z = true ∧ l.drop (k + 1) = r.drop (k + 1)) := Lib.hid (N1.out.trans ⟨fun hh => ⟨hz.out.2 hh.1.2, hh.2⟩, fun hh => ⟨⟨rfl, hz.out.1 hh.1⟩, hh.2⟩⟩)
              clear N1 hz
              go_upto_region 6 with fail
              go_cut [55] (fun s55 wx => s55 = .bool (!z) ∧ Hid (Gr wr wx))
              case first =>
                clear a1 a2 a3 a4 a5 a6 a7 b1 b2 b3 b4 b5 b6 b7 c1 c2 c3 c1' c2' c3' hs0 N2 HG G3 HQ2 TOT
                have hs0 := Hb.out _ (gr_dr (Gr.refl wr))
                go_region_held3 (fun w' => w'.cell? ⟨w.heap.size, 2, none⟩ = some (.slice (some ⟨b, o, none⟩) m c) ∧ w'.cell? ⟨w.heap.size + 1, 2, none⟩ = some (.slice (some ⟨b', o', none⟩) m c') ∧ w'.cell? ⟨b, o + k * 3, none⟩ = some (.bool false) ∧ w'.cell? ⟨b, o + k * 3 + 1, none⟩ = some (.string tn) ∧ w'.cell? ⟨b, o + k * 3 + 1 + 1, none⟩ = some (.slice q ta d) ∧ w'.cell? ⟨b', o' + k * 3, none⟩ = some (.bool false) ∧ w'.cell? ⟨b', o' + k * 3 + 1, none⟩ = some (.string tn') ∧ w'.cell? ⟨b', o' + k * 3 + 1 + 1, none⟩ = some (.slice q' ta' d') ∧ Hid (Gr wr w'))
                  (first | (with_reducible assumption) | (with_reducible exact ⟨‹_›, ‹_›, ‹_›, ‹_›, ‹_›, ‹_›, ‹_›, ‹_›, ‹_›⟩) | (with_reducible refine Hb.out _ ?_; repeat (first | (with_reducible exact Hid.out (by assumption)) | (with_reducible exact Gr.refl _) | (with_reducible refine gr_dr ?_) | (with_reducible refine Gr.more ?_ _))))
                  (first | (go_at_call 18; (try go_split_ands); (with_reducible refine (KK.out _ (by repeat (first | (with_reducible exact Hid.out (by assumption)) | (with_reducible exact Gr.refl _) | (with_reducible refine gr_dr ?_) | (with_reducible refine Gr.more ?_ _)))).mono ?_); rintro e w4 ⟨rfl, q0⟩; (have qg : Gr wr w4 := by (refine Gr.trans ?_ q0; repeat (first | (with_reducible exact Hid.out (by assumption)) | (with_reducible exact Gr.refl _) | (with_reducible refine gr_dr ?_) | (with_reducible refine Gr.more ?_ _)))); clear q0; obtain ⟨z1, z2, z3, z4, z5, z6, z7, z8, z9⟩ := Hb.out _ qg))
                all_goals
                  go_wp2_with fail
                  go_meet
                  exact ⟨rfl, Lib.hid qg⟩
              case rest =>
                obtain ⟨rfl, G5⟩ := hcut
                cases z
                · have HF : Hid (R = false) := Lib.hid (b_iff_false N2.out (fun hh => by have := hh.1; simp at this))
                  go_wp2_with fail
                  go_ret
                  exact ⟨TermEq.ret_bool HF.out.symm, TOT.out.trans G5.out⟩
                · have N3 : Hid (R = true ↔ l.drop (k + 1) = r.drop (k + 1)) := Lib.hid (N2.out.trans ⟨fun hh => hh.2, fun hh => ⟨rfl, hh⟩⟩)
                  go_wp2_with fail
                  go_roundw
                  case rel => exact ⟨k + 1, by omega, by go_num, N3, Lib.hid (hg.out.trans G5.out)⟩
                  case measure => simp [intOf]; omega
            case true =>
              have hs0 := Hb.out _ (Gr.refl wr)
              have N2 : Hid (R = true ↔ z = true ∧ l.drop (k + 1) = r.drop (k + 1)) := Lib.hid (N1.out.trans ⟨fun hh => ⟨hz.out.2 hh.1.2, hh.2⟩, fun hh => ⟨⟨rfl, hz.out.1 hh.1⟩, hh.2⟩⟩)
              clear N1 hz
              go_upto_region 6 with fail
              go_cut [55] (fun s55 wx => s55 = .bool (!z) ∧ Hid (Gr wr wx))
              case first =>
                clear a1 a2 a3 a4 a5 a6 a7 b1 b2 b3 b4 b5 b6 b7 c1 c2 c3 c1' c2' c3' hs0 N2 HG G3 HQ2 TOT
                have hs0 := Hb.out _ (gr_dr (Gr.refl wr))
                go_region_held3 (fun w' => w'.cell? ⟨w.heap.size, 2, none⟩ = some (.slice (some ⟨b, o, none⟩) m c) ∧ w'.cell? ⟨w.heap.size + 1, 2, none⟩ = some (.slice (some ⟨b', o', none⟩) m c') ∧ w'.cell? ⟨b, o + k * 3, none⟩ = some (.bool true) ∧ w'.cell? ⟨b, o + k * 3 + 1, none⟩ = some (.string tn) ∧ w'.cell? ⟨b, o + k * 3 + 1 + 1, none⟩ = some (.slice q ta d) ∧ w'.cell? ⟨b', o' + k * 3, none⟩ = some (.bool true) ∧ w'.cell? ⟨b', o' + k * 3 + 1, none⟩ = some (.string tn') ∧ w'.cell? ⟨b', o' + k * 3 + 1 + 1, none⟩ = some (.slice q' ta' d') ∧ Hid (Gr wr w'))
                  (first | (with_reducible assumption) | (with_reducible exact ⟨‹_›, ‹_›, ‹_›, ‹_›, ‹_›, ‹_›, ‹_›, ‹_›, ‹_›⟩) | (with_reducible refine Hb.out _ ?_; repeat (first | (with_reducible exact Hid.out (by assumption)) | (with_reducible exact Gr.refl _) | (with_reducible refine gr_dr ?_) | (with_reducible refine Gr.more ?_ _))))
                  (first | (go_at_call 18; (try go_split_ands); (with_reducible refine (KK.out _ (by repeat (first | (with_reducible exact Hid.out (by assumption)) | (with_reducible exact Gr.refl _) | (with_reducible refine gr_dr ?_) | (with_reducible refine Gr.more ?_ _)))).mono ?_); rintro e w4 ⟨rfl, q0⟩; (have qg : Gr wr w4 := by (refine Gr.trans ?_ q0; repeat (first | (with_reducible exact Hid.out (by assumption)) | (with_reducible exact Gr.refl _) | (with_reducible refine gr_dr ?_) | (with_reducible refine Gr.more ?_ _)))); clear q0; obtain ⟨z1, z2, z3, z4, z5, z6, z7, z8, z9⟩ := Hb.out _ qg))
                all_goals
                  go_wp2_with fail
                  go_meet
                  exact ⟨rfl, Lib.hid qg⟩
              case rest =>
                obtain ⟨rfl, G5⟩ := hcut
                cases z
                · have HF : Hid (R = false) := Lib.hid (b_iff_false N2.out (fun hh => by have := hh.1; simp at this))
                  go_wp2_with fail
                  go_ret
                  exact ⟨TermEq.ret_bool HF.out.symm, TOT.out.trans G5.out⟩
                · have N3 : Hid (R = true ↔ l.drop (k + 1) = r.drop (k + 1)) := Lib.hid (N2.out.trans ⟨fun hh => hh.2, fun hh => ⟨rfl, hh⟩⟩)
                  go_wp2_with fail
                  go_roundw
                  case rel => exact ⟨k + 1, by omega, by go_num, N3, Lib.hid (hg.out.trans G5.out)⟩
                  case measure => simp [intOf]; omega
          · have HF : Hid (R = false) := Lib.hid (b_iff_false N1.out (fun hh => hbb hh.1.1))
            have hs0 := Hb.out _ (Gr.refl wr)
            have hbx := Lib.hid hbb
            clear N1 hz hbb KK Hb hs0
            cases tb <;> cases tb' <;> first | exact absurd rfl hbx.out | skip
            all_goals
              clear hbx
              go_upto_region 6 with fail
              go_cut [55] (fun s55 wx => s55 = .bool true ∧ Hid (Gr wr wx))
              case first =>
                go_quiet (fail)
                all_goals
                  go_wp2_with fail
                  go_meet
                  exact ⟨rfl, Lib.hid (by first | exact Gr.drewN _ _ | exact Gr.drew _ | exact Gr.refl _)⟩
              case rest =>
                obtain ⟨rfl, G5⟩ := hcut
                go_wp2_with fail
                go_ret
                exact ⟨TermEq.ret_bool HF.out.symm, TOT.out.trans G5.out⟩
        · obtain rfl : k = m := by omega
          have HA2 : Hid (R = true) := Lib.hid (hA.out.2 (L3.out k (Nat.le_refl _) (Nat.le_refl _)))
          go_wp2_with fail
          go_ret
          exact ⟨TermEq.ret_bool HA2.out.symm, (HG.out.trans G3.out).trans hg.out⟩
    · have HF : Hid (R = false) := Lib.hid (b_iff_false HQ2.out (fun hh => hmm (by have h1 := HM.out; have h2 := HM'.out; rw [hh] at h1; omega)))
      go_wp2_with fail
      go_ret
      exact ⟨TermEq.ret_bool HF.out.symm, HG.out.trans G3.out⟩
end UnpP
end Go.Proofs.YtjfgnmmcdgpiiaaGreatDoor
/- Classes of terms as plain data, with fuel; and a map of the call's own whose elements are held as they are. No conditions. -/
namespace Go.Proofs.YtjfgnmmcdgpiiaaGreatDoor
open Go Go.RowKit Go.Maps Go.WideMaps
namespace UnmA
open LexM TermM TermI Kit TermN TermU UniM UniG TermT
abbrev Ky := List UInt8
def lookK {α : Type} (L : List (Ky × α)) (s : Ky) : Option α := (L.find? fun x => x.1 == s).map (·.2)
theorem lookK_cons {α : Type} (x : Ky × α) (L : List (Ky × α)) (s : Ky) : lookK (x :: L) s = if x.1 = s then some x.2 else lookK L s := by
  unfold lookK
  rw [List.find?_cons]
  by_cases h : x.1 = s
  · rw [if_pos h, beq_iff_eq.2 h]; rfl
  · rw [if_neg h, beq_eq_false_iff_ne.2 h]
theorem lookK_map {α β : Type} (f : α → β) (L : List (Ky × α)) (s : Ky) : lookK (L.map fun x => (x.1, f x.2)) s = (lookK L s).map f := by
  induction L with
  | nil => rfl
  | cons x L ih =>
    rw [List.map_cons, lookK_cons, lookK_cons, ih]
    by_cases h : x.1 = s
    · rw [if_pos h, if_pos h]; rfl
    · rw [if_neg h, if_neg h]
theorem lookK_mem {α : Type} {L : List (Ky × α)} {s : Ky} {x : α} (h : lookK L s = some x) : (s, x) ∈ L := by
  induction L with
  | nil => cases h
  | cons y L ih =>
    rw [lookK_cons] at h
    by_cases c : y.1 = s
    · rw [if_pos c] at h
      cases h
      rw [← c]
      exact List.mem_cons_self
    · rw [if_neg c] at h
      exact List.mem_cons_of_mem _ (ih h)
/-- What a map reads as, the latest entry first. -/
def DataOf (L : List (Ky × Value)) : DataW Value := L.foldr (fun x D => D.put (.string x.1) (.held x.2)) (.map [])
def heldE : Value → Option (DataW Value × List MemPlace) := fun v => some (.held v, [])
theorem data_map : ∀ L, IsMap (DataOf L)
  | [] => isMap_empty
  | _ :: L => (data_map L).put _ _
theorem has_data (s : Ky) : ∀ L, Maps.has (DataOf L) (.string s) = (lookK L s).isSome
  | [] => rfl
  | x :: L => by
    rw [lookK_cons]
    by_cases h : x.1 = s
    · rw [if_pos h, ← h]
      exact has_put_same (data_map L) (show WideAt.IsKeyLit (.string x.1) from trivial) _
    · rw [if_neg h, ← has_data s L]
      exact has_put_other (by intro e; injection e with e; exact h e.symm) _
theorem at_data (s : Ky) (z : Value) : ∀ L, (DataOf L).atKey (.string s) (.held z) = .held ((lookK L s).getD z)
  | [] => rfl
  | x :: L => by
    rw [lookK_cons]
    by_cases h : x.1 = s
    · rw [if_pos h, ← h]
      exact atKey_put_same (data_map L) (show WideAt.IsKeyLit (.string x.1) from trivial) _ _
    · rw [if_neg h, ← at_data s z L]
      exact atKey_put_other (by intro e; injection e with e; exact h e.symm) _ _
set_option maxRecDepth 100000 in
theorem look_held {w : World} {b n : Nat} {L : List (Ky × Value)} {t e : TypeId} {z : Value} (h : w.ownsMap Tryz.prog 9 heldE b n (DataOf L)) (ht : Tryz.prog.underlying t = some (.map 9 e)) (hz : (zeroValue e).run Tryz.prog w = .ok z w) (s : ByteArray) (hs : s.size ≤ maxLen) :
    (Instr.lookup t (.map (some b)) (.string s) true).run Tryz.prog w = .ok (.tuple #[(lookK L s.data.toList).getD z, .bool (lookK L s.data.toList).isSome]) w := by
  obtain ⟨v, ps, hrun, hv⟩ := h.look_ok TermE.law ht hz (show heldE z = some (.held z, []) from rfl) (keyOf_string_mk Tryz.underlying9 hs)
  rw [at_data] at hv
  rw [has_data] at hrun
  unfold heldE at hv
  injection hv with hv
  injection hv with hv _
  injection hv with hv
  rw [hrun, hv]
/-! ### The plain functions -/
abbrev Cls := List (Ky × Tm)
def leadP (D : Cls) : Nat → Tm → Option Tm
  | 0, _ => none
  | n + 1, t => match lookK D (textT t) with
    | none => some t
    | some u => leadP D n u
def ledB (a b : Tm) : Bool := isV b && (!isV a || ltB a.nm b.nm)
def joinA (f : Cls → Tm → Tm → Option (Cls × Bool)) : Cls → List Tm → List Tm → Option (Cls × Bool)
  | D, x :: xs, y :: ys => match f D x y with
    | none => none
    | some (D', false) => some (D', false)
    | some (D', true) => joinA f D' xs ys
  | D, _, _ => some (D, true)
def headE (x y : Tm) : Bool := eqB x.nm y.nm && decide (x.args.length = y.args.length)
def joinB (f : Cls → Tm → Tm → Option (Cls × Bool)) (D : Cls) (x y : Tm) : Option (Cls × Bool) :=
  if isV y = true then some ((textT y, x) :: D, true) else if headE x y = true then joinA f ((textT y, x) :: D) x.args y.args else some ((textT y, x) :: D, false)
def joinP : Nat → Cls → Tm → Tm → Option (Cls × Bool)
  | 0, _, _, _ => none
  | n + 1, D, a, b => (leadP D n a).bind fun a => (leadP D n b).bind fun b =>
    if cmpT a b = 0 then some (D, true) else if ledB b a = true then joinB (joinP n) D b a else joinB (joinP n) D a b
def mapO {α β : Type} (f : α → Option β) : List α → Option (List β)
  | [] => some []
  | x :: l => (f x).bind fun y => (mapO f l).map fun r => y :: r
def resP (D : Cls) (n : Nat) : Nat → Tm → Option Tm
  | 0, t => (leadP D n t).map fun l => .mk l.nm []
  | d + 1, t => (leadP D n t).bind fun l => (mapO (resP D n d) l.args).map fun r => .mk l.nm r
def solP (D : Cls) (n : Nat) : List ByteArray → Option (List Bd)
  | [] => some []
  | v :: l => (resP D n 4 (.mk v [])).bind fun t => (solP D n l).map fun s => if eqB t.nm v = true then s else (v, t) :: s
/-- Is it a term whose text can be had? -/
def Ok (t : Tm) : Prop := t.nm.size ≤ maxLen ∧ (textT t).length ≤ 1000000 ∧ sizeT t ≤ 1000000
theorem Ok.arg {t x : Tm} (h : Ok t) (hx : x ∈ t.args) (hn : x.nm.size ≤ maxLen) : Ok x := by
  obtain ⟨n, l⟩ := t
  obtain ⟨_, h1, h2⟩ := h
  obtain ⟨i, hi⟩ := List.mem_iff_getElem?.1 hx
  have h3 := (text_get hi).1
  have hne : l.isEmpty = false := by cases l with | nil => cases hx | cons a r => rfl
  refine ⟨hn, ?_, ?_⟩
  · simp only [Tm.args] at hi h3
    have h4 : (textT (.mk n l)).length = n.data.toList.length + (1 + (((tailT l).drop 1).length + 1)) := by
      simp [textT, hne]
      omega
    rw [List.length_drop] at h4
    omega
  · have h5 : sizeT (.mk n l) = 1 + sizeL l := by simp only [sizeT]; omega
    have h6 := UniD.size_mem hx
    simp only [Tm.args] at h6
    omega
theorem joinA_len {f : Cls → Tm → Tm → Option (Cls × Bool)} (hf : ∀ D x y D' r, f D x y = some (D', r) → D.length ≤ D'.length) : ∀ xs ys D D' r, joinA f D xs ys = some (D', r) → D.length ≤ D'.length
  | [], ys, D, D', r, h => by cases ys <;> (cases h; exact Nat.le_refl _)
  | x :: xs, [], D, D', r, h => by cases h; exact Nat.le_refl _
  | x :: xs, y :: ys, D, D', r, h => by
    unfold joinA at h
    cases he : f D x y with
    | none => rw [he] at h; cases h
    | some z =>
      obtain ⟨D1, b⟩ := z
      have h1 := hf _ _ _ _ _ he
      rw [he] at h
      cases b
      · cases h; exact h1
      · exact Nat.le_trans h1 (joinA_len hf xs ys D1 D' r h)
theorem joinB_len {f : Cls → Tm → Tm → Option (Cls × Bool)} (hf : ∀ D x y D' r, f D x y = some (D', r) → D.length ≤ D'.length) {D : Cls} {x y : Tm} {D' : Cls} {r : Bool} (h : joinB f D x y = some (D', r)) : D.length + 1 ≤ D'.length := by
  unfold joinB at h
  split at h
  · cases h; simp
  · split at h
    · have := joinA_len hf _ _ _ _ _ h
      simpa using this
    · cases h; simp
theorem joinP_len : ∀ n D a b D' r, joinP n D a b = some (D', r) → D.length ≤ D'.length
  | 0, D, a, b, D', r, h => by cases h
  | n + 1, D, a, b, D', r, h => by
    unfold joinP at h
    cases ha : leadP D n a with
    | none => rw [ha] at h; cases h
    | some x =>
      cases hb : leadP D n b with
      | none => rw [ha, hb] at h; cases h
      | some y =>
        rw [ha, hb] at h
        simp only [Option.bind_some] at h
        split at h
        · cases h; exact Nat.le_refl _
        · split at h
          · have := joinB_len (joinP_len n) h; omega
          · have := joinB_len (joinP_len n) h; omega
/-! ### In memory -/
/-- Block bm is the map of the classes; their terms lie below B. -/
def Cl (w : World) (bm B : Nat) (D : Cls) : Prop :=
  ∃ L : List (Ky × Tm × Value), D = L.map (fun x => (x.1, x.2.1)) ∧ w.ownsMap Tryz.prog 9 heldE bm D.length (DataOf (L.map fun x => (x.1, Value.agg #[.string x.2.1.nm, x.2.2]))) ∧ (∀ x ∈ L, SlIn (· < B) w x.2.1.args x.2.2 ∧ Ok x.2.1)
theorem Cl.lt {w : World} {bm B : Nat} {D : Cls} (h : Cl w bm B D) : bm < w.heap.size := by
  obtain ⟨L, _, h, _⟩ := h
  exact h.lt
theorem Cl.made (w : World) (B : Nat) : Cl (w.alloc (.map #[] 0)) w.heap.size B [] :=
  ⟨[], rfl, World.ownsMap_made _ _ _ _, fun x hx => by cases hx⟩
theorem Cl.keep {w w' : World} {bm B : Nat} {D : Cls} (h : Cl w bm B D) (hb : Below w.heap.size w w') (hB : B ≤ w.heap.size) : Cl w' bm B D := by
  have hl := h.lt
  obtain ⟨L, h1, h2, h3⟩ := h
  exact ⟨L, h1, h2.kept (row := none) ⟨hb.os, hb.tape, hb.output, hb.size, fun i hi _ => hb.block i hi⟩ (by simp), fun x hx => ⟨(h3 x hx).1.deep hb hB, (h3 x hx).2⟩⟩
/-- What a look-up answers. -/
theorem Cl.look {w : World} {bm B : Nat} {D : Cls} (h : Cl w bm B D) {t : TypeId} (ht : Tryz.prog.underlying t = some (.map 9 27)) (x : Tm) (hx : (textT x).length ≤ maxLen) :
    ∃ v, (Instr.lookup t (.map (some bm)) (.string ⟨(textT x).toArray⟩) true).run Tryz.prog w = .ok (.tuple #[v, .bool (lookK D (textT x)).isSome]) w ∧ (lookK D (textT x) = none → v = .agg #[.string ⟨#[]⟩, .slice none 0 0]) ∧ (∀ u, lookK D (textT x) = some u → ∃ uv, v = .agg #[.string u.nm, uv] ∧ SlIn (· < B) w u.args uv ∧ Ok u) := by
  obtain ⟨L, rfl, h2, h3⟩ := h
  have LK := look_held (z := .agg #[.string ⟨#[]⟩, .slice none 0 0]) h2 ht (by kernel_rfl) ⟨(textT x).toArray⟩ hx
  simp only [lookK_map (fun x : Tm × Value => Value.agg #[.string x.1.nm, x.2])] at LK
  simp only [lookK_map (fun x : Tm × Value => x.1)]
  rw [Option.isSome_map] at LK ⊢
  refine ⟨_, LK, ?_, ?_⟩
  · intro hn
    rw [Option.map_eq_none_iff] at hn
    rw [hn]
    rfl
  · intro u hu
    rw [Option.map_eq_some_iff] at hu
    obtain ⟨y, hy, rfl⟩ := hu
    rw [hy]
    exact ⟨y.2, rfl, (h3 _ (lookK_mem hy)).1, (h3 _ (lookK_mem hy)).2⟩
end UnmA
end Go.Proofs.YtjfgnmmcdgpiiaaGreatDoor
/- leads and leader of the code's classes. Conditions: the map's terms have texts of at most a million bytes; the variable nameEnds holds its bytes. -/
namespace Go.Proofs.YtjfgnmmcdgpiiaaGreatDoor
open Go Go.RowKit Go.Maps Go.WideMaps
namespace UnmB
open LexM TermM TermI Kit TermN TermU UniM UniG UniL UniD TermT UnmA
set_option maxRecDepth 100000 in
set_option maxHeartbeats 3200000 in
theorem leads_any (a b : Tm) (p q : Option Addr) (c d : Nat) (w : World) (ha : a.nm.size ≤ maxLen) (hb : b.nm.size ≤ maxLen) :
    Calls Tryz.prog 84 #[.agg #[.string a.nm, .slice p a.args.length c], .agg #[.string b.nm, .slice q b.args.length d]] w fun e w' => e = .returned (.bool (ledB a b)) ∧ Gr w w' := by
  have KA := Lib.hid (fun w' => cvar_t a p c w' ha)
  have KB := Lib.hid (fun w' => cvar_t b q d w' hb)
  obtain ⟨z, hz⟩ : ∃ z, Op.bytesLess a.nm.toList b.nm.toList = z := ⟨_, rfl⟩
  have HZ : ltB a.nm b.nm = z := by unfold ltB; rw [← hz, ByteArray.toList_eq, ByteArray.toList_eq]
  have E : ledB a b = (isV b && (!isV a || z)) := by unfold ledB; rw [HZ]
  rw [E]
  clear E HZ ha hb
  obtain ⟨W2, hW2⟩ : ∃ W2, W2 = (w.alloc (.cells #[.string a.nm, .slice p a.args.length c] 27)).alloc (.cells #[.string b.nm, .slice q b.args.length d] 27) := ⟨_, rfl⟩
  have G2 : Hid (Gr w W2) := Lib.hid (by rw [hW2]; exact (Gr.alloc _ _).more _)
  have H2 : Hid (Has W2 w.heap.size #[.string a.nm, .slice p a.args.length c]) := Lib.hid (by rw [hW2]; exact (Has.new w _ _).alloc _)
  have T2 : Hid (Has W2 (w.heap.size + 1) #[.string b.nm, .slice q b.args.length d]) := Lib.hid (by rw [hW2]; exact Has.new1 w _ _ _)
  have HH := Lib.hid (fun w' (k : Below W2.heap.size W2 w') => And.intro (H2.out.step0 k).two (T2.out.step0 k).two)
  clear H2 T2
  generalize isV a = x at *
  generalize isV b = y at *
  generalize a.nm = an at *
  generalize b.nm = bn at *
  generalize a.args.length = al at *
  generalize b.args.length = bl at *
  obtain ⟨⟨y1, y2, _⟩, z1, z2, _⟩ := HH.out _ (Below.refl _ _)
  go_enter Tryz.func84, Tryz.ntmps84
  go_upto_region 1 with fail
  rw [← hW2]
  clear hW2
  go_wp2_with fail
  refine (KB.out _).mono ?_
  rintro e w3 ⟨rfl, g3⟩
  obtain ⟨⟨y3, y4, _⟩, z3, z4, _⟩ := HH.out _ g3.1
  have D3 := Lib.hid (G2.out.trans g3)
  cases y
  · clear KA y1 y2 z1 z2 g3
    go_wp2_with fail
    go_ret
    exact ⟨rfl, D3.out⟩
  · clear y1 y2 z1 z2
    have S3 := Lib.hid g3
    clear g3
    go_wp2_with fail
    refine (KA.out _).mono ?_
    rintro e w4 ⟨rfl, g4⟩
    obtain ⟨⟨y5, y6, _⟩, z5, z6, _⟩ := HH.out _ (S3.out.trans g4).1
    have D4 := Lib.hid (D3.out.trans g4)
    clear y3 y4 z3 z4 g4 S3 KA KB
    cases x
    · go_wp2_with fail
      go_ret
      exact ⟨rfl, D4.out⟩
    · go_wp2_with fail
      go_ret
      exact ⟨rfl, D4.out⟩
/-- A term, in memory below B. -/
def TmR (r : Tm) (B : Nat) (w : World) (e : Ending) (w' : World) : Prop :=
  ∃ (p : Option Addr) (c : Nat), e = .returned (.agg #[.string r.nm, .slice p r.args.length c]) ∧ SlIn (· < B) w' r.args (.slice p r.args.length c) ∧ Ok r ∧ Below w.heap.size w w'
theorem put_agg {w : World} {g : Nat} {a b : Value} (h : Has w g #[a, b]) (u v : Value) : Has ((w.setCell ⟨g, 0, none⟩ u).setCell ⟨g, 1, none⟩ v) g #[u, v] := (h.set 0 u).set 1 v
theorem far_agg {w : World} {g k : Nat} {cs : Array Value} (hne : g ≠ k) (h : Has w g cs) (u v : Value) : Has ((w.setCell ⟨k, 0, none⟩ u).setCell ⟨k, 1, none⟩ v) g cs := (h.far (p := ⟨k, 0, none⟩) hne u).far (p := ⟨k, 1, none⟩) hne v
theorem slin_far {w : World} {B k : Nat} {l : List Tm} {v : Value} (h : SlIn (· < B) w l v) (hk : B ≤ k) (a b : Value) : SlIn (· < B) ((w.setCell ⟨k, 0, none⟩ a).setCell ⟨k, 1, none⟩ b) l v :=
  h.frame fun g o hg => by rw [cell_far (by show g ≠ k; omega), cell_far (by show g ≠ k; omega)]
set_option maxRecDepth 100000 in
set_option maxHeartbeats 6400000 in
theorem leader_any (D : Cls) (n : Nat) (t r : Tm) (hr : leadP D n t = some r) (B bm : Nat) (w : World) (sv : Value) (hw : Wd w) (hB : B ≤ w.heap.size) (hC : Cl w bm B D) (h : SlIn (· < B) w t.args sv) (ht : Ok t) :
    Calls Tryz.prog 83 #[.map (some bm), .agg #[.string t.nm, sv]] w (TmR r B w) := by
  obtain ⟨p, c, rfl⟩ := h.form
  obtain ⟨W2, hW2⟩ : ∃ W2, W2 = (w.alloc (.cells #[.string t.nm, .slice p t.args.length c] 27)).alloc (.cells #[.string ⟨#[]⟩, .slice none 0 0] 27) := ⟨_, rfl⟩
  have G2 : Hid (Gr w W2) := Lib.hid (by rw [hW2]; exact (Gr.alloc _ _).more _)
  have hs2 : w.heap.size + 2 ≤ W2.heap.size := by rw [hW2]; simp
  have H2 : Hid (Has W2 w.heap.size #[.string t.nm, .slice p t.args.length c]) := Lib.hid (by rw [hW2]; exact (Has.new w _ _).alloc _)
  have E2 : Hid (Has W2 (w.heap.size + 1) #[.string ⟨#[]⟩, .slice none 0 0]) := Lib.hid (by rw [hW2]; exact Has.new1 w _ _ _)
  have S2 := Lib.hid (h.gr G2.out hB)
  have CT := Lib.hid (fun (u : Tm) w' sv (k : Below w.heap.size w w') (h : SlIn (· < B) w' u.args sv) (o : Ok u) => text_any u B w' sv (hw.below k hw.1) (Nat.le_trans hB k.size) h (by have := o.2.1; omega))
  have LK := Lib.hid (fun (u : Tm) w' (k : Below w.heap.size w w') (o : Ok u) => (hC.keep k hB).look Tryz.underlying72 u (by have := o.2.1; unfold maxLen; omega))
  have HT := Lib.hid ht
  have HB := Lib.hid hB
  have HR0 := Lib.hid hr
  clear hC h ht hw hB hr
  unfold TmR
  go_enter Tryz.func83, Tryz.ntmps83
  go_wp2_with fail
  rw [← hW2]
  clear hW2
  go_loopg [] n (fun k wr => ∃ (u : Tm) (q : Option Addr) (d : Nat), leadP D k u = some r ∧ Hid (Has wr w.heap.size #[.string u.nm, .slice q u.args.length d]) ∧ Hid (SlIn (· < B) wr u.args (.slice q u.args.length d)) ∧ Hid (Ok u) ∧ Hid (Has wr (w.heap.size + 1) #[.string ⟨#[]⟩, .slice none 0 0]) ∧ Hid (Below w.heap.size w wr) ∧ w.heap.size + 2 ≤ wr.heap.size)
  case atStart => exact ⟨t, p, c, HR0.out, H2, S2, HT, E2, Lib.hid G2.out.1, hs2⟩
  case round =>
    obtain ⟨u, q, d, hl, HU, SU, OU, EU, DU, hsz⟩ := hrel
    cases gk with
    | zero => simp [leadP] at hl
    | succ k =>
      unfold leadP at hl
      obtain ⟨y1, y2, _⟩ := HU.out.two
      have CT1 := Lib.hid (CT.out u _ _ DU.out SU.out OU.out)
      go_wp2_with fail
      refine CT1.out.mono ?_
      rintro e w3 ⟨rfl, k3⟩
      have D3 := Lib.hid (next0 DU.out k3)
      have H3 := Lib.hid (HU.out.step0 k3)
      have E3 := Lib.hid (EU.out.step0 k3)
      have S3 := Lib.hid (SU.out.deep k3 (Nat.le_trans HB.out DU.out.size))
      have hs3 : w.heap.size + 2 ≤ w3.heap.size := Nat.le_trans hsz k3.size
      obtain ⟨v, hrun, hv0, hv1⟩ := LK.out u w3 D3.out OU.out
      clear y1 y2 k3 CT1 HU EU SU DU
      cases hk : lookK D (textT u) with
      | none =>
        rw [hk] at hl hrun
        obtain rfl : u = r := by simpa using hl
        obtain rfl := hv0 hk
        simp only [Option.isSome_none] at hrun
        clear hv0 hv1 hk hl LK CT
        obtain ⟨W4, hW4⟩ : ∃ W4, W4 = w3.alloc (.cells #[.string ⟨#[]⟩, .slice none 0 0] 27) := ⟨_, rfl⟩
        have H4 : Hid (Has W4 w.heap.size #[.string u.nm, .slice q u.args.length d]) := Lib.hid (by rw [hW4]; exact H3.out.alloc _)
        have E4 : Hid (Has W4 (w.heap.size + 1) #[.string ⟨#[]⟩, .slice none 0 0]) := Lib.hid (by rw [hW4]; exact E3.out.alloc _)
        have D4 : Hid (Below w.heap.size w W4) := Lib.hid (by rw [hW4]; exact next0 D3.out (below_alloc _ _))
        have S4 : Hid (SlIn (· < B) W4 u.args (.slice q u.args.length d)) := Lib.hid (by rw [hW4]; exact S3.out.deep (below_alloc _ _) (Nat.le_trans HB.out D3.out.size))
        obtain ⟨y1, y2, _⟩ := H4.out.two
        obtain ⟨x1, x2, x3, x4, x5⟩ := E4.out.two
        have r := put_agg E4.out (.string u.nm) (.slice q u.args.length d)
        have r1 := r.cell 0
        have r2 := r.cell 1
        simp only [List.getElem?_toArray, List.getElem?_cons_zero, List.getElem?_cons_succ] at r1 r2
        have D5 := Lib.hid ((D4.out.setCell (p := ⟨w.heap.size + 1, 0, none⟩) (by simp) (.string u.nm)).setCell (p := ⟨w.heap.size + 1, 1, none⟩) (by simp) (.slice q u.args.length d))
        have S5 := Lib.hid (slin_far S4.out (show B ≤ w.heap.size + 1 by have := HB.out; omega) (.string u.nm) (.slice q u.args.length d))
        clear r H3 E3 D3 S3 H4 E4 D4 S4
        go_upto_region 2 with fail
        rw [← hW4]
        clear hW4
        go_wp2_with fail
        refine bodyPost_ret (v := .agg #[.string u.nm, .slice q u.args.length d]) (by simp [results, Tryz.results83, go_sem, r1, r2]) rfl ?_
        exact ⟨q, d, rfl, S5.out, OU.out, D5.out⟩
      | some u' =>
        rw [hk] at hl hrun
        obtain ⟨uv, rfl, hsu, hou⟩ := hv1 u' hk
        obtain ⟨q', d', rfl⟩ := hsu.form
        simp only [Option.isSome_some] at hrun
        have SU' := Lib.hid hsu
        have OU' := Lib.hid hou
        clear hv0 hv1 hk hsu hou
        obtain ⟨W4, hW4⟩ : ∃ W4, W4 = w3.alloc (.cells #[.string u'.nm, .slice q' u'.args.length d'] 27) := ⟨_, rfl⟩
        have N4 : Hid (Has W4 w3.heap.size #[.string u'.nm, .slice q' u'.args.length d']) := Lib.hid (by rw [hW4]; exact Has.new _ _ _)
        have H4 : Hid (Has W4 w.heap.size #[.string u.nm, .slice q u.args.length d]) := Lib.hid (by rw [hW4]; exact H3.out.alloc _)
        have E4 : Hid (Has W4 (w.heap.size + 1) #[.string ⟨#[]⟩, .slice none 0 0]) := Lib.hid (by rw [hW4]; exact E3.out.alloc _)
        have D4 : Hid (Below w.heap.size w W4) := Lib.hid (by rw [hW4]; exact next0 D3.out (below_alloc _ _))
        have hs4 : w3.heap.size + 1 = W4.heap.size := by rw [hW4]; simp
        have S4 : Hid (SlIn (· < B) W4 u'.args (.slice q' u'.args.length d')) := Lib.hid (by rw [hW4]; exact SU'.out.deep (below_alloc _ _) (Nat.le_trans HB.out D3.out.size))
        obtain ⟨y1, y2, _⟩ := N4.out.two
        obtain ⟨x1, x2, x3, x4, x5⟩ := H4.out.two
        have H5 := Lib.hid (put_agg H4.out (.string u'.nm) (.slice q' u'.args.length d'))
        have E5 := Lib.hid (far_agg (k := w.heap.size) (by omega) E4.out (.string u'.nm) (.slice q' u'.args.length d'))
        have D5 := Lib.hid ((D4.out.setCell (p := ⟨w.heap.size, 0, none⟩) (by simp) (.string u'.nm)).setCell (p := ⟨w.heap.size, 1, none⟩) (by simp) (.slice q' u'.args.length d'))
        have S5 := Lib.hid (slin_far S4.out (show B ≤ w.heap.size by exact HB.out) (.string u'.nm) (.slice q' u'.args.length d'))
        clear H3 E3 D3 S3 H4 E4 D4 S4 N4 SU'
        go_upto_region 2 with fail
        rw [← hW4]
        clear hW4
        go_wp2_with fail
        go_roundg k
        case measure => omega
        case rel => exact ⟨u', q', d', hl, H5, S5, OU', E5, D5, by simp [World.setCell]; omega⟩
end UnmB
end Go.Proofs.YtjfgnmmcdgpiiaaGreatDoor
/- join of the code's classes. Conditions: texts of at most a million bytes, at most a million entries; the variable nameEnds holds its bytes. -/
namespace Go.Proofs.YtjfgnmmcdgpiiaaGreatDoor
open Go Go.RowKit Go.Maps Go.WideMaps
namespace UnmC
open LexM TermM TermI Kit TermN TermU UniK UniM UniG UniL UniD TermT UnmA UnmB
theorem slin_c {bm B : Nat} {w w' : World} {l : List Tm} {v : Value} (h : SlIn (· < B) w l v) (g : Ch bm w w') (hB : B ≤ bm) (hs : B ≤ w.heap.size) : SlIn (· < B) w' l v :=
  h.frame fun b o hb => g.cell (by omega) (by omega)
theorem wd_c {bm : Nat} {w w' : World} (h : Wd w) (g : Ch bm w w') (hg : 0 < bm) : Wd w' :=
  ⟨Nat.lt_of_lt_of_le h.1 g.size, (g.cell h.1 (by omega)).trans h.2.1, (g.cell h.1 (by omega)).trans h.2.2.1, (g.cell h.1 (by omega)).trans h.2.2.2⟩
set_option maxRecDepth 100000 in
theorem cl_put {w : World} {bm B : Nat} {D : Cls} (h : Cl w bm B D) (hB : B ≤ bm) (hl : D.length < 1000000) {x y : Tm} {xv : Value} (hx : SlIn (· < B) w x.args xv) (ox : Ok x) (oy : Ok y) :
    ∃ w', (Instr.mapUpdate 72 (.map (some bm)) (.string ⟨(textT y).toArray⟩) (.agg #[.string x.nm, xv])).run Tryz.prog w = .ok () w' ∧ Cl w' bm B ((textT y, x) :: D) ∧ Ch bm w w' := by
  have hbm := h.lt
  obtain ⟨L, rfl, h2, h3⟩ := h
  obtain ⟨w', e1, e2, e3⟩ := h2.update TermE.law Tryz.underlying72 (by unfold maxLen; omega) (keyOf_string_mk Tryz.underlying9 (s := ⟨(textT y).toArray⟩) (by have := oy.2.1; unfold maxLen; exact (show (textT y).length ≤ _ by omega))) (show heldE (.agg #[.string x.nm, xv]) = some (.held _, []) from rfl)
  refine ⟨w', e1, ⟨(textT y, x, xv) :: L, rfl, ?_, fun z hz => ?_⟩, e3⟩
  · rw [List.map_cons, List.length_cons]; exact e2
  · rcases List.mem_cons.1 hz with rfl | hz
    · exact ⟨slin_c hx e3 hB (by omega), ox⟩
    · exact ⟨slin_c (h3 z hz).1 e3 hB (by omega), (h3 z hz).2⟩
theorem cl_ch {bm : Nat} {w w' : World} (h : Below w.heap.size w w') : Ch bm w w' := Ch.of h
/-- What join leaves. -/
def JnR (r : Bool) (D' : Cls) (bm B : Nat) (w : World) (e : Ending) (w' : World) : Prop := e = .returned (.bool r) ∧ Cl w' bm B D' ∧ Ch bm w w'
def JnT (n : Nat) : Prop := ∀ (D : Cls) (a b : Tm) (D' : Cls) (r : Bool), joinP n D a b = some (D', r) → D'.length ≤ 1000000 → ∀ (B bm : Nat) (w : World) (av bv : Value), Wd w → 0 < B → B ≤ bm → Cl w bm B D → SlIn (· < B) w a.args av → SlIn (· < B) w b.args bv → Ok a → Ok b →
  Calls Tryz.prog 53 #[.map (some bm), .agg #[.string a.nm, av], .agg #[.string b.nm, bv]] w (JnR r D' bm B w)
theorem joinA_drop {f : Cls → Tm → Tm → Option (Cls × Bool)} {D : Cls} {xs ys : List Tm} {k : Nat} {x y : Tm} (hx : xs[k]? = some x) (hy : ys[k]? = some y) :
    joinA f D (xs.drop k) (ys.drop k) = match f D x y with
      | none => none
      | some (D', false) => some (D', false)
      | some (D', true) => joinA f D' (xs.drop (k + 1)) (ys.drop (k + 1)) := by
  rw [TermQ.drop_get hx, TermQ.drop_get hy]
  rfl
set_option maxRecDepth 100000 in
set_option maxHeartbeats 6400000 in
theorem join_any (n : Nat) : JnT n := by
  induction n with
  | zero => intro D a b D' r h; cases h
  | succ n IH =>
    intro D a b D' r hj hlen B bm w av bv hw hg hBm hC ha hb oa ob
    have hbm := hC.lt
    have hB : B ≤ w.heap.size := by omega
    obtain ⟨pa, ca, rfl⟩ := ha.form
    obtain ⟨pb, cb, rfl⟩ := hb.form
    obtain ⟨x, hx⟩ : ∃ x, leadP D n a = some x := by
      unfold joinP at hj
      cases h : leadP D n a with
      | none => rw [h] at hj; cases hj
      | some x => exact ⟨x, rfl⟩
    obtain ⟨y, hy⟩ : ∃ y, leadP D n b = some y := by
      unfold joinP at hj
      cases h : leadP D n b with
      | none => rw [hx, h] at hj; cases hj
      | some x => exact ⟨x, rfl⟩
    have HJ : Hid ((if cmpT x y = 0 then some (D, true) else if ledB y x = true then joinB (joinP n) D y x else joinB (joinP n) D x y) = some (D', r)) := Lib.hid (by
      unfold joinP at hj; rw [hx, hy] at hj; exact hj)
    obtain ⟨W2, hW2⟩ : ∃ W2, W2 = (w.alloc (.cells #[.string a.nm, .slice pa a.args.length ca] 27)).alloc (.cells #[.string b.nm, .slice pb b.args.length cb] 27) := ⟨_, rfl⟩
    have G2 : Hid (Gr w W2) := Lib.hid (by rw [hW2]; exact (Gr.alloc _ _).more _)
    have B2 : Hid (Below w.heap.size w W2) := Lib.hid G2.out.1
    have hs2 : w.heap.size + 2 ≤ W2.heap.size := by rw [hW2]; simp
    have H2 : Hid (Has W2 w.heap.size #[.string a.nm, .slice pa a.args.length ca]) := Lib.hid (by rw [hW2]; exact (Has.new w _ _).alloc _)
    have T2 : Hid (Has W2 (w.heap.size + 1) #[.string b.nm, .slice pb b.args.length cb]) := Lib.hid (by rw [hW2]; exact Has.new1 w _ _ _)
    have LA := Lib.hid (fun w' (k : Below w.heap.size w w') => leader_any D n a x hx B bm w' _ (hw.below k hw.1) (Nat.le_trans hB k.size) (hC.keep k hB) (ha.deep k hB) oa)
    have LB := Lib.hid (fun w' (k : Below w.heap.size w w') => leader_any D n b y hy B bm w' _ (hw.below k hw.1) (Nat.le_trans hB k.size) (hC.keep k hB) (hb.deep k hB) ob)
    have CK := Lib.hid (fun w' (k : Below w.heap.size w w') => And.intro (hC.keep k hB) (hw.below k hw.1))
    have HB := Lib.hid hB
    have HBM := Lib.hid hBm
    have HWD := Lib.hid (fun w' (g : Ch bm w w') => wd_c hw g (by omega))
    have HG := Lib.hid hg
    have HLN := Lib.hid hlen
    have hbm2 := hbm
    have HIH := Lib.hid IH
    clear IH hC ha hb hw hj hx hy hB hBm hg oa ob
    unfold TmR at LA LB
    unfold JnR
    generalize a.nm = an at *
    generalize a.args.length = al at *
    generalize b.nm = bn at *
    generalize b.args.length = bl at *
    obtain ⟨y1, y2, y3, y4, y5⟩ := H2.out.two
    obtain ⟨z1, z2, z3, z4, z5⟩ := T2.out.two
    go_enter Tryz.func53, Tryz.ntmps53
    go_upto_region 1 with fail
    rw [← hW2]
    clear hW2
    go_cut [] (fun wx => ∃ (p3 : Option Addr) (c3 : Nat) (p4 : Option Addr) (c4 : Nat), Hid (Has wx w.heap.size #[.string x.nm, .slice p3 x.args.length c3]) ∧ Hid (Has wx (w.heap.size + 1) #[.string y.nm, .slice p4 y.args.length c4]) ∧ Hid (SlIn (· < B) wx x.args (.slice p3 x.args.length c3)) ∧ Hid (SlIn (· < B) wx y.args (.slice p4 y.args.length c4)) ∧ Hid (Ok x ∧ Ok y) ∧ Hid (Below w.heap.size w wx) ∧ w.heap.size + 2 ≤ wx.heap.size)
    case first =>
      clear HJ CK HIH
      go_region_law (first
        | (go_simp; go_at_call 83; (with_reducible refine (LA.out _ (by first | exact B2.out | exact B2.out.drew | exact below_drewN B2.out _)).mono ?_); rintro e w3 ⟨p3, c3, rfl, s3, o3, b3⟩; have B3 : Hid (Below w.heap.size w w3) := Lib.hid (by first | exact next0 B2.out b3 | exact next0 B2.out.drew b3 | exact next0 (below_drewN B2.out _) b3); have K3 : Hid (Below W2.heap.size W2 w3) := Lib.hid (by first | exact b3 | exact next0 (Below.refl _ _).drew b3 | exact next0 (below_drewN (Below.refl _ _) _) b3); have H3 := Lib.hid (H2.out.step0 K3.out); have T3 := Lib.hid (T2.out.step0 K3.out); have S3 := Lib.hid s3; have O3 := Lib.hid o3; clear s3 o3 b3 y1 y2 y3 y4 y5 z1 z2 z3 z4 z5; obtain ⟨z1, z2, z3, z4, z5⟩ := T3.out.two)
        | (go_simp; go_at_call 83; (with_reducible refine (LB.out _ (by first | exact B3.out | exact B3.out.drew | exact below_drewN B3.out _)).mono ?_); rintro e w4 ⟨p4, c4, rfl, s4, o4, b4⟩; have B4 : Hid (Below w.heap.size w w4) := Lib.hid (by first | exact next0 B3.out b4 | exact next0 B3.out.drew b4 | exact next0 (below_drewN B3.out _) b4); have K4 : Hid (Below w3.heap.size w3 w4) := Lib.hid (by first | exact b4 | exact next0 (Below.refl _ _).drew b4 | exact next0 (below_drewN (Below.refl _ _) _) b4); have S4 := Lib.hid s4; have O4 := Lib.hid o4; have S3' := Lib.hid (S3.out.deep K4.out (Nat.le_trans HB.out B3.out.size)); have H4 := Lib.hid (H3.out.step0 K4.out); have T4 := Lib.hid (T3.out.step0 K4.out); clear s4 o4 b4 z1 z2 z3 z4 z5; obtain ⟨y1, y2, y3, y4, y5⟩ := H4.out.two; obtain ⟨z1, z2, z3, z4, z5⟩ := T4.out.two; have a1 := H4.out.put0 (.string x.nm) (.slice p3 x.args.length c3); have a2 := H4.out.put1 (.string x.nm) (.slice p3 x.args.length c3)))
      all_goals
        go_wp2_with fail
        go_meet
        exact ⟨p3, c3, p4, c4, Lib.hid (far_agg (k := w.heap.size + 1) (by omega) (put_agg H4.out _ _) _ _), Lib.hid (put_agg (far_agg (k := w.heap.size) (by omega) T4.out _ _) _ _), Lib.hid (slin_far (slin_far S3'.out HB.out _ _) (show B ≤ w.heap.size + 1 by have := HB.out; omega) _ _), Lib.hid (slin_far (slin_far S4.out HB.out _ _) (show B ≤ w.heap.size + 1 by have := HB.out; omega) _ _), Lib.hid ⟨O3.out, O4.out⟩, Lib.hid ((((B4.out.setCell (p := ⟨w.heap.size, 0, none⟩) (by simp) _).setCell (p := ⟨w.heap.size, 1, none⟩) (by simp) _).setCell (p := ⟨w.heap.size + 1, 0, none⟩) (by simp) _).setCell (p := ⟨w.heap.size + 1, 1, none⟩) (by simp) _), by have := K3.out.size; have := K4.out.size; simp [World.setCell]; omega⟩
    case rest =>
      obtain ⟨p3, c3, p4, c4, HA, HY, S3, S4, OO, K1, hs1⟩ := hcut
      clear LA LB G2 B2 H2 T2 y1 y2 y3 y4 y5 z1 z2 z3 z4 z5 hs2
      obtain ⟨y1, y2, _⟩ := HA.out.two
      obtain ⟨z1, z2, _⟩ := HY.out.two
      have CC := Lib.hid (TermR.cmp_any x B wc (.slice p3 x.args.length c3) y (.slice p4 y.args.length c4) (Nat.le_trans HB.out K1.out.size) OO.out.1.1 OO.out.2.1 S3.out S4.out)
      have CL := Lib.hid (fun w' => leads_any y x p4 p3 c4 c3 w' OO.out.2.1 OO.out.1.1)
      obtain ⟨z, hz⟩ : ∃ z, (cmpT x y == 0) = z := ⟨_, rfl⟩
      have HJ2 : Hid ((if z = true then some (D, true) else if ledB y x = true then joinB (joinP n) D y x else joinB (joinP n) D x y) = some (D', r)) := Lib.hid (by
        rw [← hz]
        have := HJ.out
        by_cases h : cmpT x y = 0
        · rw [if_pos h] at this; simpa [h] using this
        · rw [if_neg h] at this; simpa [h] using this)
      clear HJ
      obtain ⟨L, hL⟩ : ∃ L, ledB y x = L := ⟨_, rfl⟩
      rw [hL] at HJ2 CL
      clear hL
      generalize cmpT x y = cc at *
      go_wp2_with fail
      refine CC.out.mono ?_
      rintro e w5 ⟨rfl, g5⟩
      have K5 := Lib.hid (next0 K1.out g5.1)
      have HA5 := Lib.hid (HA.out.step0 g5.1)
      have HY5 := Lib.hid (HY.out.step0 g5.1)
      have S35 := Lib.hid (S3.out.deep g5.1 (Nat.le_trans HB.out K1.out.size))
      have S45 := Lib.hid (S4.out.deep g5.1 (Nat.le_trans HB.out K1.out.size))
      have hs5 : w.heap.size + 2 ≤ w5.heap.size := Nat.le_trans hs1 g5.1.size
      clear CC HA HY S3 S4 K1 hs1 g5 y1 y2 z1 z2
      obtain ⟨y1, y2, _⟩ := HA5.out.two
      obtain ⟨z1, z2, _⟩ := HY5.out.two
      cases z
      case true =>
        have e9 := HJ2.out
        rw [if_pos rfl] at e9
        cases e9
        go_wp2_with fail
        go_ret
        exact ⟨rfl, (CK.out _ K5.out).1, Ch.of K5.out⟩
      case false =>
        have HJ3 : Hid ((if L = true then joinB (joinP n) D y x else joinB (joinP n) D x y) = some (D', r)) := Lib.hid (by have e9 := HJ2.out; rwa [if_neg (by simp)] at e9)
        clear HJ2
        go_wp2_with fail
        refine (CL.out _).mono ?_
        rintro e w6 ⟨rfl, g6⟩
        have K6 := Lib.hid (next0 K5.out g6.1)
        have HA6 := Lib.hid (HA5.out.step0 g6.1)
        have HY6 := Lib.hid (HY5.out.step0 g6.1)
        have S36 := Lib.hid (S35.out.deep g6.1 (Nat.le_trans HB.out K5.out.size))
        have S46 := Lib.hid (S45.out.deep g6.1 (Nat.le_trans HB.out K5.out.size))
        have hs6 : w.heap.size + 2 ≤ w6.heap.size := Nat.le_trans hs5 g6.1.size
        clear CL HA5 HY5 S35 S45 K5 hs5 g6 y1 y2 z1 z2
        go_upto_if 20 with fail
        go_cut [] (fun wx => ∃ (X Y : Tm) (pX : Option Addr) (cX : Nat) (pY : Option Addr) (cY : Nat), Hid (joinB (joinP n) D X Y = some (D', r)) ∧ Hid (Has wx w.heap.size #[.string X.nm, .slice pX X.args.length cX]) ∧ Hid (Has wx (w.heap.size + 1) #[.string Y.nm, .slice pY Y.args.length cY]) ∧ Hid (SlIn (· < B) wx X.args (.slice pX X.args.length cX)) ∧ Hid (SlIn (· < B) wx Y.args (.slice pY Y.args.length cY)) ∧ Hid (Ok X ∧ Ok Y) ∧ Hid (Below w.heap.size w wx) ∧ w.heap.size + 2 ≤ wx.heap.size)
        case first =>
          cases L
          · have e9 := HJ3.out
            rw [if_neg (by simp)] at e9
            go_wp2_with fail
            go_meet
            exact ⟨x, y, p3, c3, p4, c4, Lib.hid e9, HA6, HY6, S36, S46, OO, K6, hs6⟩
          · have e9 := HJ3.out
            rw [if_pos rfl] at e9
            have E9 := Lib.hid e9
            clear e9 HJ3
            obtain ⟨y1, y2, y3, y4, y5⟩ := HA6.out.two
            obtain ⟨z1, z2, z3, z4, z5⟩ := HY6.out.two
            have FA := Lib.hid (far_agg (k := w.heap.size + 1) (by omega) (put_agg HA6.out (.string y.nm) (.slice p4 y.args.length c4)) (.string x.nm) (.slice p3 x.args.length c3))
            have FB := Lib.hid (put_agg (far_agg (k := w.heap.size) (by omega) HY6.out (.string y.nm) (.slice p4 y.args.length c4)) (.string x.nm) (.slice p3 x.args.length c3))
            have KW := Lib.hid ((((K6.out.setCell (p := ⟨w.heap.size, 0, none⟩) (by simp) (.string y.nm)).setCell (p := ⟨w.heap.size, 1, none⟩) (by simp) (.slice p4 y.args.length c4)).setCell (p := ⟨w.heap.size + 1, 0, none⟩) (by simp) (.string x.nm)).setCell (p := ⟨w.heap.size + 1, 1, none⟩) (by simp) (.slice p3 x.args.length c3))
            have SA := Lib.hid (slin_far (slin_far S36.out HB.out (.string y.nm) (.slice p4 y.args.length c4)) (show B ≤ w.heap.size + 1 by have := HB.out; omega) (.string x.nm) (.slice p3 x.args.length c3))
            have SB := Lib.hid (slin_far (slin_far S46.out HB.out (.string y.nm) (.slice p4 y.args.length c4)) (show B ≤ w.heap.size + 1 by have := HB.out; omega) (.string x.nm) (.slice p3 x.args.length c3))
            clear HA6 HY6 S36 S46 K6
            go_wp2_with fail
            go_meet
            exact ⟨y, x, p4, c4, p3, c3, E9, FA, FB, SB, SA, Lib.hid ⟨OO.out.2, OO.out.1⟩, KW, by simp [World.setCell]; omega⟩
        case rest =>
          obtain ⟨X, Y, pX, cX, pY, cY, HJ4, HX, HY, SX, SY, OO4, K4, hs4⟩ := hcut
          have hDl : D.length + 1 ≤ D'.length := joinB_len (joinP_len n) HJ4.out
          clear HJ3 HA6 HY6 S36 S46 K6 hs6 OO
          obtain ⟨y1, y2, _⟩ := HX.out.two
          obtain ⟨z1, z2, _⟩ := HY.out.two
          have CT := Lib.hid (fun w' (k : Below wc.heap.size wc w') => text_any Y B w' _ ((CK.out w' (next0 K4.out k)).2) (Nat.le_trans HB.out (next0 K4.out k).size) (SY.out.deep k (Nat.le_trans HB.out K4.out.size)) (by have := OO4.out.2.2.1; omega))
          go_upto_region 6 with fail
          go_cut [] (fun wx => Hid (Cl wx bm B ((textT Y, X) :: D)) ∧ Hid (Ch bm wc wx))
          case first =>
            go_region_law (first
              | (go_simp; go_at_call 85; (with_reducible refine (CT.out _ (by first | exact Below.refl _ _ | exact (Below.refl _ _).drew | exact below_drewN (Below.refl _ _) _)).mono ?_); rintro e w7 ⟨rfl, b7⟩; have B7 : Hid (Below wc.heap.size wc w7) := Lib.hid (by first | exact b7 | exact next0 (Below.refl _ _).drew b7 | exact next0 (below_drewN (Below.refl _ _) _) b7); clear b7 y1 y2 z1 z2; obtain ⟨y1, y2, _⟩ := (HX.out.step0 B7.out).two; obtain ⟨w8, hrun, hC8, hh8⟩ := cl_put (CK.out w7 (next0 K4.out B7.out)).1 HBM.out (by have := HLN.out; omega) (SX.out.deep B7.out (Nat.le_trans HB.out K4.out.size)) OO4.out.1 OO4.out.2; have C8 := Lib.hid hC8; have K8 := Lib.hid hh8; clear hC8 hh8))
            all_goals
              go_wp2_with fail
              go_meet
              exact ⟨C8, Lib.hid ((Ch.of B7.out).trans K8.out)⟩
          case rest =>
            obtain ⟨C5, H5⟩ := hcut
            obtain ⟨wd, hwd⟩ : ∃ wd, wd = wc := ⟨_, rfl⟩
            have HX5 := Lib.hid (H5.out.has HX.out (by omega))
            have HY5 := Lib.hid (H5.out.has HY.out (by omega))
            have F5 := Lib.hid ((Ch.of (r := bm) K4.out).trans H5.out)
            have SX5 := Lib.hid (slin_c SX.out H5.out HBM.out (Nat.le_trans HB.out K4.out.size))
            have SY5 := Lib.hid (slin_c SY.out H5.out HBM.out (Nat.le_trans HB.out K4.out.size))
            have hs5 : w.heap.size + 2 ≤ wc.heap.size := Nat.le_trans hs4 H5.out.size
            have DL5 : Hid (((textT Y, X) :: D : Cls).length ≤ D'.length) := Lib.hid (by simpa using hDl)
            clear y1 y2 z1 z2 CT HX HY SX SY K4 hs4 H5 CK hDl hwd wd
            unfold joinB at HJ4
            generalize ((textT Y, X) :: D : Cls) = D1 at *
            have KV := Lib.hid (fun w' => cvar_t Y pY cY w' OO4.out.2.1)
            have KH := Lib.hid (fun w' => head_any X.nm Y.nm pX pY X.args.length cX Y.args.length cY w')
            have EH : Hid (headE X Y = (eqB X.nm Y.nm && decide (X.args.length = Y.args.length))) := Lib.hid rfl
            rw [← EH.out] at KH
            obtain ⟨v, hv⟩ : ∃ v, isV Y = v := ⟨_, rfl⟩
            obtain ⟨h, hh⟩ : ∃ h, headE X Y = h := ⟨_, rfl⟩
            rw [hv] at HJ4 KV
            rw [hh] at HJ4 KH EH
            clear hv hh
            obtain ⟨y1, y2, _⟩ := HX5.out.two
            obtain ⟨z1, z2, _⟩ := HY5.out.two
            go_wp2_with fail
            refine (KV.out _).mono ?_
            rintro e w6 ⟨rfl, g6⟩
            have C6 := Lib.hid (C5.out.keep g6.1 (Nat.le_trans HB.out F5.out.size))
            have F6 := Lib.hid (F5.out.below g6.1)
            have HX6 := Lib.hid (HX5.out.step0 g6.1)
            have HY6 := Lib.hid (HY5.out.step0 g6.1)
            have SX6 := Lib.hid (SX5.out.deep g6.1 (Nat.le_trans HB.out F5.out.size))
            have SY6 := Lib.hid (SY5.out.deep g6.1 (Nat.le_trans HB.out F5.out.size))
            have hs6 : w.heap.size + 2 ≤ w6.heap.size := Nat.le_trans hs5 g6.1.size
            clear C5 F5 HX5 HY5 SX5 SY5 hs5 g6 y1 y2 z1 z2 KV
            obtain ⟨y1, y2, _⟩ := HX6.out.two
            obtain ⟨z1, z2, _⟩ := HY6.out.two
            cases v
            case true =>
              have e9 := HJ4.out
              rw [if_pos rfl] at e9
              cases e9
              go_wp2_with fail
              go_ret
              exact ⟨rfl, C6.out, F6.out⟩
            case false =>
              have HJ5 : Hid ((if h = true then joinA (joinP n) D1 X.args Y.args else some (D1, false)) = some (D', r)) := Lib.hid (by have e9 := HJ4.out; rwa [if_neg (by simp)] at e9)
              clear HJ4
              go_wp2_with fail
              refine (KH.out _).mono ?_
              rintro e w7 ⟨rfl, g7⟩
              have C7 := Lib.hid (C6.out.keep g7.1 (Nat.le_trans HB.out F6.out.size))
              have F7 := Lib.hid (F6.out.below g7.1)
              have HX7 := Lib.hid (HX6.out.step0 g7.1)
              have HY7 := Lib.hid (HY6.out.step0 g7.1)
              have SX7 := Lib.hid (SX6.out.deep g7.1 (Nat.le_trans HB.out F6.out.size))
              have SY7 := Lib.hid (SY6.out.deep g7.1 (Nat.le_trans HB.out F6.out.size))
              have hs7 : w.heap.size + 2 ≤ w7.heap.size := Nat.le_trans hs6 g7.1.size
              clear C6 F6 HX6 HY6 SX6 SY6 hs6 g7 y1 y2 z1 z2 KH
              obtain ⟨y1, y2, _⟩ := HX7.out.two
              cases h
              case false =>
                have e9 := HJ5.out
                rw [if_neg (by simp)] at e9
                cases e9
                go_wp2_with fail
                go_ret
                exact ⟨rfl, C7.out, F7.out⟩
              case true =>
                have e9 := HJ5.out
                rw [if_pos rfl] at e9
                have HE : Hid (joinA (joinP n) D1 (X.args.drop 0) (Y.args.drop 0) = some (D', r)) := Lib.hid e9
                have hab : X.args.length = Y.args.length := by
                  have := EH.out.symm
                  rw [Bool.and_eq_true, decide_eq_true_eq] at this
                  exact this.2
                have hm63 : X.args.length ≤ 9223372036854775807 := by
                  obtain ⟨_, _, _, _, hc1, hc2, _⟩ := SX7.out.row
                  unfold maxLen at hc2
                  omega
                have JA : Hid (∀ (D9 : Cls) (xs ys : List Tm) (D8 : Cls) (r8 : Bool), joinA (joinP n) D9 xs ys = some (D8, r8) → D9.length ≤ D8.length) := Lib.hid (fun D9 xs ys D8 r8 h => joinA_len (joinP_len n) xs ys D9 D8 r8 h)
                have AX := Lib.hid (fun (x : Tm) (hx : x ∈ X.args) (hn : x.nm.size ≤ maxLen) => OO4.out.1.arg hx hn)
                have AY := Lib.hid (fun (x : Tm) (hx : x ∈ Y.args) (hn : x.nm.size ≤ maxLen) => OO4.out.2.arg hx hn)
                rw [← hab] at HY7 SY7
                have HAB := Lib.hid hab
                clear e9 HJ5 EH hab
                generalize hma : X.args.length = m at *
                have HMA := Lib.hid hma
                clear hma
                go_wp2_with fail
                clear y1 y2
                go_loopw [36] (fun i wr => ∃ (k : Nat) (Dk : Cls), k ≤ m ∧ i = .int .i64 k ∧ Hid (joinA (joinP n) Dk (X.args.drop k) (Y.args.drop k) = some (D', r)) ∧ Hid (Cl wr bm B Dk) ∧ Hid (Ch bm w7 wr)) (fun i _ => m - (intOf i).toNat)
                case atStart => exact ⟨0, D1, Nat.zero_le _, rfl, HE, C7, Lib.hid (Ch.refl _ _)⟩
                case round =>
                  obtain ⟨k, Dk, hk, rfl, hE, hC, hF⟩ := hrel
                  by_cases hlt : k < m
                  · have HXr := Lib.hid (hF.out.has HX7.out (by omega))
                    have HYr := Lib.hid (hF.out.has HY7.out (by omega))
                    have SXr := Lib.hid (slin_c SX7.out hF.out HBM.out (Nat.le_trans HB.out F7.out.size))
                    have SYr := Lib.hid (slin_c SY7.out hF.out HBM.out (Nat.le_trans HB.out F7.out.size))
                    obtain ⟨p', c', e1, _, _, _, hR⟩ := SXr.out.row
                    rw [HMA.out] at e1
                    injection e1 with e1 _ e2
                    subst e1 e2
                    obtain ⟨x9, b, o, q, d, hx9, rfl, hb, u1, u2, hxs, hxn⟩ := hR k (by rw [HMA.out]; exact hlt)
                    obtain ⟨p', c', e1, _, _, _, hR'⟩ := SYr.out.row
                    rw [← HAB.out] at e1
                    injection e1 with e1 _ e2
                    subst e1 e2
                    obtain ⟨y9, b2, o2, q2, d2, hy9, rfl, hb2, v1, v2, hys, hyn⟩ := hR' k (by rw [← HAB.out]; exact hlt)
                    obtain ⟨z1, z2, _⟩ := HXr.out.two
                    obtain ⟨z3, z4, _⟩ := HYr.out.two
                    have E9 := hE.out
                    rw [joinA_drop hx9 hy9] at E9
                    have O1 := AX.out x9 (List.mem_of_getElem? hx9) hxn
                    have O2 := AY.out y9 (List.mem_of_getElem? hy9) hyn
                    obtain ⟨D2, t, hj9, hl9, hn9⟩ : ∃ D2 t, joinP n Dk x9 y9 = some (D2, t) ∧ D2.length ≤ D'.length ∧ Hid ((t = false → D2 = D' ∧ r = false) ∧ (t = true → joinA (joinP n) D2 (X.args.drop (k + 1)) (Y.args.drop (k + 1)) = some (D', r))) := by
                      cases hj : joinP n Dk x9 y9 with
                      | none => rw [hj] at E9; cases E9
                      | some z =>
                        obtain ⟨D2, t⟩ := z
                        rw [hj] at E9
                        cases t with
                        | false => cases E9; exact ⟨_, _, rfl, Nat.le_refl _, Lib.hid ⟨fun _ => ⟨rfl, rfl⟩, fun h => (by cases h)⟩⟩
                        | true => exact ⟨_, _, rfl, JA.out _ _ _ _ _ E9, Lib.hid ⟨fun h => (by cases h), fun _ => E9⟩⟩
                    have CI := Lib.hid (fun w' (g : Below wr.heap.size wr w') => HIH.out Dk x9 y9 D2 t hj9 (Nat.le_trans hl9 HLN.out) B bm w' _ _ (HWD.out w' ((F7.out.trans hF.out).below g)) HG.out HBM.out (hC.out.keep g (Nat.le_trans HB.out (F7.out.trans hF.out).size)) (hxs.deep g (Nat.le_trans HB.out (F7.out.trans hF.out).size)) (hys.deep g (Nat.le_trans HB.out (F7.out.trans hF.out).size)) O1 O2)
                    clear hx9 hy9 hxs hys hxn hyn O1 O2 E9 hj9 hl9 hE hC hR hR' SXr SYr
                    unfold JnR at CI
                    generalize x9.nm = xn at *
                    generalize x9.args.length = xa at *
                    generalize y9.nm = yn at *
                    generalize y9.args.length = ya at *
                    go_upto_region 14 with fail
                    go_region_with (first
                      | (go_at_call 53; (with_reducible refine (CI.out _ (by first | exact Below.refl _ _ | exact (Below.refl _ _).drew | exact below_drewN (Below.refl _ _) _)).mono ?_); rintro e w8 ⟨rfl, h8, k8⟩; have C8 := Lib.hid h8; have K8 : Hid (Ch bm wr w8) := Lib.hid (by first | exact k8 | exact (Ch.of (Below.refl _ _).drew).trans k8 | exact (Ch.of (below_drewN (Below.refl _ _) _)).trans k8); clear h8 k8))
                    all_goals
                      cases t
                      · obtain ⟨rfl, rfl⟩ := hn9.out.1 rfl
                        go_wp2_with fail
                        go_ret
                        exact ⟨rfl, C8.out, (F7.out.trans hF.out).trans K8.out⟩
                      · have EN := Lib.hid (hn9.out.2 rfl)
                        clear hn9
                        go_wp2_with fail
                        go_roundw
                        case rel => exact ⟨k + 1, D2, by omega, by go_num, EN, C8, Lib.hid (hF.out.trans K8.out)⟩
                        case measure => simp [intOf]; omega
                  · obtain rfl : k = m := by omega
                    have e9 := hE.out
                    rw [← HMA.out, List.drop_length, HMA.out, HAB.out, List.drop_length] at e9
                    cases e9
                    go_wp2_with fail
                    go_ret
                    exact ⟨rfl, hC.out, F7.out.trans hF.out⟩
end UnmC
end Go.Proofs.YtjfgnmmcdgpiiaaGreatDoor
/- The reference's Apply of substitutions. Conditions: the substitution binds variables alone; terms of at most a million parts. -/
namespace Go.Proofs.YtjfgnmmcdgpiiaaGreatDoor
open Go Go.RowKit
namespace UniH
open LexM TermM TermI Kit TermN TermU UniK UniM UniA UniC UniD UniE UniG
theorem slin_ret {ok : Nat → Prop} {w4 : World} {g : Nat} {l : List Tm} {v : Value} (h : SlIn ok w4 l v) (hb : ∀ b, ok b → b ≠ g ∧ b < w4.heap.size) (x y : Value) (o : Obj) : SlIn ok (((w4.setCell ⟨g, 0, none⟩ x).setCell ⟨g, 1, none⟩ y).alloc o) l v :=
  h.frame fun b i hk => ((below_alloc _ _).cell (p := ⟨b, i, none⟩) (by simpa [World.setCell] using (hb b hk).2)).trans (by rw [cell_far (hb b hk).1, cell_far (hb b hk).1])
theorem below_ret {w w4 : World} {g : Nat} (h : Below w.heap.size w w4) (hg : w.heap.size ≤ g) (x y : Value) (o : Obj) : Below w.heap.size w (((w4.setCell ⟨g, 0, none⟩ x).setCell ⟨g, 1, none⟩ y).alloc o) :=
  next0 ((h.setCell (p := ⟨g, 0, none⟩) hg x).setCell (p := ⟨g, 1, none⟩) hg y) (below_alloc _ _)
/-- What the reference's Apply leaves: the term, in blocks below B or in new ones. -/
def RApR (B : Nat) (u : Tm) (w : World) (e : Ending) (w' : World) : Prop :=
  ∃ (q : Option Addr) (d : Nat), e = .returned (.agg #[.string u.nm, .slice q u.args.length d]) ∧ SlIn (fun b => b < B ∨ (w.heap.size ≤ b ∧ b < w'.heap.size)) w' u.args (.slice q u.args.length d) ∧ u.nm.size ≤ maxLen ∧ Below w.heap.size w w'
theorem look_var {s : List Bd} (hV : ∀ b ∈ s, varB b.1 = true) {n : ByteArray} (hn : varB n = false) : lookS s n = none := by
  unfold lookS
  rw [List.find?_eq_none.2 (fun y hy he => by
    rw [eqB_iff] at he
    rw [← he, hV y hy] at hn
    cases hn)]
  rfl
theorem app_same {s : List Bd} (hV : ∀ b ∈ s, varB b.1 = true) (n : ByteArray) (l : List Tm) (h : isV (.mk n l) = false) : appT s (.mk n l) = .mk n (l.map (appT s)) := by
  unfold appT
  cases l with
  | nil =>
    have : varB n = false := by simpa [isV, Tm.args, Tm.nm] using h
    simp [look_var hV this]
  | cons a l => simp [appL_map]
set_option maxRecDepth 100000 in
set_option maxHeartbeats 6400000 in
theorem rapply_var (s : List Bd) (n : ByteArray) (B : Nat) (w : World) (sv : Value) (p : Option Addr) (c : Nat) (hB : B ≤ w.heap.size) (hs : SIn (· < B) w s sv) (h : SlIn (· < B) w [] (.slice p 0 c)) (hn : n.size ≤ maxLen) (hv : isV (.mk n []) = true) :
    Calls Tryz.prog 21 #[sv, .agg #[.string n, .slice p 0 c]] w (RApR B ((lookS s n).getD (.mk n [])) w) := by
  have CV := Lib.hid (fun w' => rvar_t (.mk n []) p c w' hn)
  rw [hv] at CV
  dsimp only [Tm.nm, Tm.args, List.length_nil] at CV
  have CL := Lib.hid (fun w' (k : Below w.heap.size w w') => rlookup_any s n B w' sv (Nat.le_trans hB k.size) (hs.deep k hB))
  obtain ⟨W2, hW2⟩ : ∃ W2, W2 = (w.alloc (.cells #[.string n, .slice p 0 c] 27)).alloc (.cells #[.string ⟨#[]⟩, .slice none 0 0] 27) := ⟨_, rfl⟩
  have G2 : Gr w W2 := by rw [hW2]; exact (Gr.alloc _ _).more _
  have hz2w : w.heap.size + 2 ≤ W2.heap.size := by rw [hW2]; simp
  have H2 : Hid (Has W2 w.heap.size #[.string n, .slice p 0 c]) := Lib.hid (by rw [hW2]; exact (Has.new w _ _).alloc _)
  have E2 : Hid (Has W2 (w.heap.size + 1) #[.string ⟨#[]⟩, .slice none 0 0]) := Lib.hid (by rw [hW2]; exact Has.new1 w _ _ _)
  have HS := Lib.hid (fun (w' : World) (k : Below w.heap.size w w') => h.deep k hB)
  have GG := Lib.hid G2
  have HN := Lib.hid hn
  clear h hs hv G2 hn
  generalize lookS s n = o9 at *
  unfold RLkR at CL
  unfold RApR
  obtain ⟨y1, y2, y3, y4, y5⟩ := H2.out.two
  go_enter Tryz.func21, Tryz.ntmps21
  go_upto_region 1 with fail
  rw [← hW2]
  clear hW2
  go_wp2_with fail
  refine (CV.out _).mono ?_
  rintro e w3 ⟨rfl, g3⟩
  have D3 := Lib.hid (next0 GG.out.1 g3.1)
  have H3 := Lib.hid (H2.out.step0 g3.1)
  have E3 := Lib.hid (E2.out.step0 g3.1)
  have hz3 : w.heap.size + 2 ≤ w3.heap.size := Nat.le_trans hz2w g3.1.size
  clear y1 y2 y3 y4 y5 CV g3 H2 E2
  obtain ⟨y1, y2, y3, y4, y5⟩ := H3.out.two
  go_wp2_with fail
  refine (CL.out _ D3.out).mono ?_
  rintro e w4 ⟨u, q, d, f, rfl, hc, hS, hnu, hb⟩
  have D4 := Lib.hid (next0 D3.out hb)
  have H4 := Lib.hid (H3.out.step0 hb)
  have E4 := Lib.hid (E3.out.step0 hb)
  have hz4 : w.heap.size + 2 ≤ w4.heap.size := Nat.le_trans hz3 hb.size
  have S4 := Lib.hid hS
  have N4 := Lib.hid hnu
  have HC := Lib.hid hc
  clear y1 y2 y3 y4 y5 CL hb D3 H3 E3 hS hnu hc
  obtain ⟨z1, z2, z3, z4, z5⟩ := E4.out.two
  obtain ⟨y1, y2, y3, y4, y5⟩ := H4.out.two
  rcases HC.out with ⟨ho, rfl⟩ | ⟨ho, hu, rfl⟩
  · subst ho
    clear HC HS HN
    obtain ⟨r1, r2, _⟩ := (((E4.out.set 0 (.string u.nm)).set 1 (.slice q u.args.length d)).alloc (.cells #[.string u.nm, .slice q u.args.length d] 27)).two
    go_wp2_with fail
    refine bodyPost_ret (v := .agg #[.string u.nm, .slice q u.args.length d]) (by simp [results, Tryz.results21, go_sem, r1, r2]) rfl ?_
    exact ⟨q, d, rfl, (slin_ret S4.out (fun b hb => ⟨by omega, by omega⟩) _ _ _).weaken (fun b hb => Or.inl hb), N4.out, below_ret D4.out (by omega) _ _ _⟩
  · subst ho
    have S5 := Lib.hid (HS.out _ D4.out)
    clear HC S4 N4
    obtain ⟨r1, r2, _⟩ := (((E4.out.set 0 (.string n)).set 1 (.slice p 0 c)).alloc (.cells #[.string u.nm, .slice q u.args.length d] 27)).two
    subst hu
    go_wp2_with fail
    refine bodyPost_ret (v := .agg #[.string n, .slice p 0 c]) (by simp [results, Tryz.results21, go_sem, r1, r2]) rfl ?_
    exact ⟨p, c, rfl, (slin_ret S5.out (fun b hb => ⟨by omega, by omega⟩) _ _ _).weaken (fun b hb => Or.inl hb), HN.out, below_ret D4.out (by omega) _ _ _⟩
set_option maxRecDepth 100000 in
set_option maxHeartbeats 6400000 in
theorem rapply_any (s : List Bd) (hV : ∀ b ∈ s, varB b.1 = true) (t : Tm) : ∀ (B : Nat) (w : World) (sv tv : Value), B ≤ w.heap.size → SIn (· < B) w s sv → SlIn (· < B) w t.args tv → t.nm.size ≤ maxLen → sizeT t ≤ 1000000 →
    Calls Tryz.prog 21 #[sv, .agg #[.string t.nm, tv]] w (RApR B (appT s t) w) := by
  obtain ⟨i0, hi, hz0, hz1, hz2⟩ := info_parts Tryz.info28
  induction t using Tm.ind with
  | h n l ih =>
    intro B w sv tv hB hs h hnm hz
    dsimp only [Tm.args, Tm.nm] at h hnm ⊢
    by_cases hv : isV (.mk n l) = true
    · have hl : l = [] := by cases l with
        | nil => rfl
        | cons a l => simp [isV, Tm.args] at hv
      subst hl
      obtain ⟨p, c, rfl⟩ := h.form
      have := rapply_var s n B w sv p c hB hs h hnm hv
      simpa [appT] using this
    · have hv0 : isV (.mk n l) = false := by simpa using hv
      rw [app_same hV n l hv0]
      obtain ⟨p, c, rfl, hn, hc, hm, hR⟩ := h.row
      have hls := len_size l
      simp only [sizeT] at hz
      have CV := Lib.hid (fun w' => rvar_t (.mk n l) p c w' hnm)
      rw [hv0] at CV
      dsimp only [Tm.nm, Tm.args] at CV
      obtain ⟨W2, hW2⟩ : ∃ W2, W2 = (w.alloc (.cells #[.string n, .slice p l.length c] 27)).alloc (.cells #[.string ⟨#[]⟩, .slice none 0 0] 27) := ⟨_, rfl⟩
      have G2 : Gr w W2 := by rw [hW2]; exact (Gr.alloc _ _).more _
      have hz2w : w.heap.size + 2 ≤ W2.heap.size := by rw [hW2]; simp
      have H2 : Hid (Has W2 w.heap.size #[.string n, .slice p l.length c]) := Lib.hid (by rw [hW2]; exact (Has.new w _ _).alloc _)
      have E2 : Hid (Has W2 (w.heap.size + 1) #[.string ⟨#[]⟩, .slice none 0 0]) := Lib.hid (by rw [hW2]; exact Has.new1 w _ _ _)
      have IH : Hid (∀ t ∈ l, ∀ (w' : World) (v : Value), Below w.heap.size w w' → SlIn (· < B) w' t.args v → t.nm.size ≤ maxLen → Calls Tryz.prog 21 #[sv, .agg #[.string t.nm, v]] w' (RApR B (appT s t) w')) :=
        Lib.hid (fun t hk w' v hb h hn => ih t hk B w' sv v (Nat.le_trans hB hb.size) (hs.deep hb hB) h hn (by have := size_mem hk; omega))
      have TK : Hid (∀ k t, l[k]? = some t → (l.take (k + 1)).map (appT s) = (l.take k).map (appT s) ++ [appT s t]) := Lib.hid (fun k t h => by rw [take_get l k t h]; simp)
      have FT : Hid ((l.take l.length).map (appT s) = l.map (appT s)) := Lib.hid (by simp)
      have HB := Lib.hid hB
      have HR := Lib.hid hR
      have HNM := Lib.hid hnm
      have hlb : l.length ≤ 1000000 := by omega
      have ll : Hid ((l.map (appT s)).length = l.length) := Lib.hid (by simp)
      have GG := Lib.hid G2
      unfold RApR
      dsimp only [Tm.nm, Tm.args]
      rw [ll.out]
      generalize hm' : l.length = m at *
      have HM := Lib.hid hm'
      clear ih hR h hm' hn hls hz ll hs hv hv0 hnm G2
      obtain ⟨y1, y2, y3, y4, y5⟩ := H2.out.two
      go_enter Tryz.func21, Tryz.ntmps21
      go_upto_region 1 with fail
      rw [← hW2]
      clear hW2
      go_wp2_with fail
      refine (CV.out _).mono ?_
      rintro e w3 ⟨rfl, g3⟩
      have D3 := Lib.hid (next0 GG.out.1 g3.1)
      have H3 := Lib.hid (H2.out.step0 g3.1)
      have E3 := Lib.hid (E2.out.step0 g3.1)
      have hz3 : w.heap.size + 2 ≤ w3.heap.size := Nat.le_trans hz2w g3.1.size
      clear y1 y2 y3 y4 y5 CV g3 H2 E2
      obtain ⟨y1, y2, y3, y4, y5⟩ := H3.out.two
      go_wp2_with fail
      clear y1 y2 y3 y4 y5
      have hB3 : B ≤ w3.heap.size := by have := HB.out; omega
      have sz3 : w.heap.size ≤ w3.heap.size := by omega
      go_loopw [8] (fun i wr => ∃ (k : Nat) (L : List (Tm × Value)) (v : Value), k ≤ m ∧ i = .int .i64 k ∧ Hid (L.map (·.1) = (l.take k).map (appT s)) ∧ Hid (OwnB B (w3.heap.size + 1) wr L v) ∧ Hid (Has wr w3.heap.size #[.string n, v]) ∧ Hid (Has wr w.heap.size #[.string n, .slice p m c]) ∧ Hid (Has wr (w.heap.size + 1) #[.string ⟨#[]⟩, .slice none 0 0]) ∧ Hid (Below w.heap.size w wr)) (fun i _ => m - (intOf i).toNat)
      case atStart => exact ⟨0, [], _, Nat.zero_le _, rfl, Lib.hid rfl, Lib.hid (OwnB.nil _ _ _), Lib.hid (Has.new _ _ _), Lib.hid (H3.out.alloc _), Lib.hid (E3.out.alloc _), Lib.hid (D3.out.alloc sz3 _)⟩
      case round =>
        obtain ⟨k, L, v, hk, rfl, hL, hO, hC, hH, hE, hD⟩ := hrel
        by_cases hlt : k < m
        · obtain ⟨t, b, o, q, d, ht, rfl, hb, c1, c2, hs, hts⟩ := (Row.deep HR.out hD.out HB.out) k (by rw [HM.out]; exact hlt)
          obtain ⟨x1, x2, x3, x4, hbl⟩ := hC.out.two
          obtain ⟨y1, y2, y3, y4, y5⟩ := hH.out.two
          have hLl : L.length = k := by
            have := congrArg List.length hL.out
            rw [List.length_map, List.length_map, List.length_take, HM.out] at this
            omega
          have hLl2 : L.length ≤ 1000000 := by omega
          have TT := Lib.hid (TK.out k t ht)
          have IT := Lib.hid (fun w' (g : Below wr.heap.size wr w') => IH.out t (List.mem_of_getElem? ht) w' _ (next0 hD.out g) (hs.deep g (Nat.le_trans HB.out hD.out.size)) hts)
          have hv := Lib.hid hO.out.1.lt
          have A1 : L.length + 1 ≤ maxLen := by unfold maxLen; omega
          have A2 : (L.length + 1) * 40 ≤ 140737488355328 := by omega
          have hDs := hD.out.size
          have hbs : w3.heap.size + 1 ≤ wr.heap.size := hbl
          clear hs hts ht hLl
          generalize t.nm = tn at *
          generalize t.args.length = ta at *
          generalize appT s t = u at *
          unfold RApR at IT
          go_wp2_with fail
          go_region_law (first
            | (refine step_append_lies _ rfl _ _ 25 rfl (w3.heap.size + 1) 27 i0 (.agg #[.string ⟨#[]⟩, .slice none 0 0]) 2 40 Tryz.underlying25 hi hz0 hz1 hz2 rfl (by decide) v L.length (flatL L) rfl (O2.out.1.alloc _) ⟨w2.heap.size, 0, none⟩ 1 1 [.string u.nm, .slice q1 u.args.length c1'] rfl rfl (news2 _ _ _ _) (one2 _ _ _ _) (by decide) A1 A2 A3 (w2.heap.size + 1) (by simp) ?_; intro g cap w4 hown hgrow hat hlt3; have O3 := Lib.hid (O2.out.add (by omega) (by omega) S2.out NU.out hbl (fun k hk => (hv.out k hk).2) hown hgrow hat); have nv1 : v.ownBlock ≠ some w3.heap.size := (fun e => absurd (hv.out _ e).1 (by omega)); have nv2 : v.ownBlock ≠ some (w.heap.size + 1) := (fun e => absurd (hv.out _ e).1 (by omega)); have nv3 : v.ownBlock ≠ some w.heap.size := (fun e => absurd (hv.out _ e).1 (by omega)); have C3 := Lib.hid (UniD.Has.grown (C2.out.alloc _) hgrow nv1); have E3 := Lib.hid (UniD.Has.grown (E2.out.alloc _) hgrow nv2); have H3 := Lib.hid (UniD.Has.grown (H2.out.alloc _) hgrow nv3); have D3 := Lib.hid ((D2.out.alloc (by exact D2.out.size) _).grown hgrow (by have := D2.out.size; simp; omega) (fun k hk => by have := (hv.out k hk).1; omega)); clear hown hgrow hat; obtain ⟨u1, u2, u3, u4, u5⟩ := C3.out.two)
            | (go_simp; go_at_call 21; refine (IT.out _ (by first | exact Below.refl _ _ | exact (Below.refl _ _).drew | exact below_drewN (Below.refl _ _) _)).mono ?_; rintro e w2 ⟨q1, c1', rfl, s2, nu, b2⟩; have G2 : Below wr.heap.size wr w2 := (by first | exact b2 | exact next0 (Below.refl _ _).drew b2 | exact next0 (below_drewN (Below.refl _ _) _) b2); have hz22 : wr.heap.size ≤ w2.heap.size := G2.size; have S2 := Lib.hid (s2.weaken (ok' := fun b => b < B ∨ (wr.heap.size ≤ b ∧ b < w2.heap.size)) (fun b hb => hb)); have NU := Lib.hid nu; have D2 := Lib.hid (hD.out.trans (G2.mono hD.out.size)); have O2 := Lib.hid (hO.out.below G2); have C2 := Lib.hid (hC.out.step0 G2); have E2 := Lib.hid (hE.out.step0 G2); have H2 := Lib.hid (hH.out.step0 G2); have A3 : w3.heap.size + 1 ≤ (w2.alloc (.cells #[.string u.nm, .slice q1 u.args.length c1'] 27)).heap.size := (by have := C2.out.lt; simp; omega); clear s2 b2 G2 nu; obtain ⟨z1, z2, z3, z4, z5⟩ := C2.out.two))
          all_goals
            go_wp2_with fail
            go_roundw
            case rel => exact ⟨k + 1, L ++ [(u, .slice q1 u.args.length c1')], _, by omega, by go_num, Lib.hid (by rw [List.map_append, hL.out, TT.out]; rfl), Lib.hid (O3.out.far (by simp) (by simp; omega) _), Lib.hid (C3.out.set 1 _), Lib.hid (H3.out.far (by show w.heap.size ≠ w3.heap.size; omega) _), Lib.hid (E3.out.far (by show w.heap.size + 1 ≠ w3.heap.size; omega) _), Lib.hid (D3.out.setCell (by show w.heap.size ≤ w3.heap.size; omega) _)⟩
            case measure => simp [intOf]; omega
        · obtain rfl : k = m := by omega
          obtain ⟨a, c', rfl⟩ := hO.out.form
          have hLl : L.length = k := by
            have := congrArg List.length hL.out
            rw [List.length_map, List.length_map, List.length_take, HM.out] at this
            omega
          have HL : Hid (L.map (·.1) = l.map (appT s)) := Lib.hid (by rw [hL.out, FT.out])
          rw [hLl] at hO hC
          obtain ⟨x1, x2, _, _, x5⟩ := hC.out.two
          obtain ⟨z1, z2, _, _, z5⟩ := hH.out.two
          obtain ⟨y1, y2, y3, y4, y5⟩ := hE.out.two
          have O4 := Lib.hid (((hO.out.far (p := ⟨w.heap.size + 1, 0, none⟩) (by show w.heap.size + 1 < w3.heap.size + 1; omega) (by show B ≤ w.heap.size + 1; omega) (.string n)).far (p := ⟨w.heap.size + 1, 1, none⟩) (by show w.heap.size + 1 < w3.heap.size + 1; omega) (by show B ≤ w.heap.size + 1; omega) (.slice a k c')))
          have D4 := Lib.hid ((hD.out.setCell (p := ⟨w.heap.size + 1, 0, none⟩) (by simp) (.string n)).setCell (p := ⟨w.heap.size + 1, 1, none⟩) (by simp) (.slice a k c'))
          have r1 := hE.out.put0 (.string n) (.slice a k c')
          have r2 := hE.out.put1 (.string n) (.slice a k c')
          clear hLl
          go_wp2_with fail
          refine bodyPost_ret (v := .agg #[.string n, .slice a k c']) (by simp [results, Tryz.results21, go_sem, r1, r2]) rfl ?_
          refine ⟨a, c', rfl, ?_, HNM.out, D4.out⟩
          rw [← HL.out]
          exact O4.out.slin.weaken (fun b hb => by have := hb; omega)
end UniH
end Go.Proofs.YtjfgnmmcdgpiiaaGreatDoor
/- resolve of the code's classes. Conditions: texts of at most a million bytes; the variable nameEnds holds its bytes. Made by genunmd.py. -/
namespace Go.Proofs.YtjfgnmmcdgpiiaaGreatDoor
open Go Go.RowKit Go.Maps Go.WideMaps
namespace UnmD
open LexM TermM TermI Kit TermN TermU UniK UniM UniG UniL UniD UniH TermT UnmA UnmB UnmC
theorem leaf_nil (n : ByteArray) (w : World) : Calls Tryz.prog 57 #[.string n] w fun e w' => e = .returned (.agg #[.string n, .slice none 0 0]) ∧ Below w.heap.size w w' := by
  go_enter Tryz.func57, Tryz.ntmps57
  go_wp2_with fail
  refine bodyPost_ret (v := .agg #[.string n, .slice none 0 0]) (by simp [results, Tryz.results57, go_sem]) rfl ?_
  exact ⟨rfl, below_alloc w _⟩
theorem mapO_len {α β : Type} {f : α → Option β} : ∀ {l : List α} {r : List β}, mapO f l = some r → r.length = l.length
  | [], r, h => by cases h; rfl
  | x :: l, r, h => by
    unfold mapO at h
    cases h1 : f x with
    | none => rw [h1] at h; cases h
    | some y =>
      cases h2 : mapO f l with
      | none => rw [h1, h2] at h; cases h
      | some r' =>
        rw [h1, h2] at h
        cases h
        simp [mapO_len h2]
theorem mapO_take {α β : Type} {f : α → Option β} : ∀ {l : List α} {r : List β}, mapO f l = some r → ∀ (k : Nat) (x : α), l[k]? = some x → ∃ y, r[k]? = some y ∧ f x = some y
  | [], r, h => by intro k x hx; simp at hx
  | x :: l, r, h => by
    unfold mapO at h
    cases h1 : f x with
    | none => rw [h1] at h; cases h
    | some y =>
      cases h2 : mapO f l with
      | none => rw [h1, h2] at h; cases h
      | some r' =>
        rw [h1, h2] at h
        cases h
        intro k z hz
        cases k with
        | zero => simp at hz; subst hz; exact ⟨y, rfl, h1⟩
        | succ k => exact mapO_take h2 k z (by simpa using hz)
set_option maxRecDepth 100000 in
set_option maxHeartbeats 6400000 in
theorem res_any (D : Cls) (n d : Nat) : d ≤ 100 → ∀ (t u : Tm), resP D n d t = some u → ∀ (B bm : Nat) (w : World) (tv : Value), Wd w → B ≤ w.heap.size → Cl w bm B D → SlIn (· < B) w t.args tv → Ok t →
    Calls Tryz.prog 56 #[.map (some bm), .agg #[.string t.nm, tv], .int .i64 d] w (RApR 0 u w) := by
  obtain ⟨i0, hi, hz0, hz1, hz2⟩ := info_parts Tryz.info28
  induction d with
  | zero =>
    intro hd t u hr B bm w tv hw hB hC h ot
    obtain ⟨p, c, rfl⟩ := h.form
    obtain ⟨x, hx⟩ : ∃ x, leadP D n t = some x := by
      unfold resP at hr
      cases h : leadP D n t with
      | none => rw [h] at hr; cases hr
      | some x => exact ⟨x, rfl⟩
    obtain ⟨W2, hW2⟩ : ∃ W2, W2 = (w.alloc (.cells #[.string t.nm, .slice p t.args.length c] 27)).alloc (.cells #[.string ⟨#[]⟩, .slice none 0 0] 27) := ⟨_, rfl⟩
    have B2 : Hid (Below w.heap.size w W2) := Lib.hid (by rw [hW2]; exact ((Gr.alloc _ _).more _).1)
    have hs2 : w.heap.size + 2 ≤ W2.heap.size := by rw [hW2]; simp
    have H2 : Hid (Has W2 w.heap.size #[.string t.nm, .slice p t.args.length c]) := Lib.hid (by rw [hW2]; exact (Has.new w _ _).alloc _)
    have E2 : Hid (Has W2 (w.heap.size + 1) #[.string ⟨#[]⟩, .slice none 0 0]) := Lib.hid (by rw [hW2]; exact Has.new1 w _ _ _)
    have LA := Lib.hid (fun w' (k : Below w.heap.size w w') => leader_any D n t x hx B bm w' _ (hw.below k hw.1) (Nat.le_trans hB k.size) (hC.keep k hB) (h.deep k hB) ot)
    have HB := Lib.hid hB
    unfold TmR at LA
    unfold RApR
    have e9 : u = .mk x.nm [] := by
      unfold resP at hr
      rw [hx] at hr
      simpa using hr.symm
    generalize t.nm = tn at *
    generalize t.args.length = tl at *
    generalize hxn : x.nm = xn at *
    have HXN := Lib.hid hxn
    generalize hm : x.args.length = m at *
    have HM := Lib.hid hm
    subst e9
    clear hC h hw hr hx hm
    dsimp only [Tm.nm, Tm.args, List.length_nil]
    obtain ⟨y1, y2, y3, y4, y5⟩ := H2.out.two
    go_enter Tryz.func56, Tryz.ntmps56
    go_upto_region 1 with fail
    rw [← hW2]
    clear hW2
    go_wp2_with fail
    refine (LA.out _ B2.out).mono ?_
    rintro e w3 ⟨p3, c3, rfl, s3, o3, b3⟩
    have D3 := Lib.hid (next0 B2.out b3)
    have E3 := Lib.hid (E2.out.step0 b3)
    have S3 := Lib.hid s3
    have O3 := Lib.hid o3
    have hs3 : w.heap.size + 2 ≤ w3.heap.size := Nat.le_trans hs2 b3.size
    clear y1 y2 y3 y4 y5 LA H2 E2 B2 s3 b3
    obtain ⟨W4, hW4⟩ : ∃ W4, W4 = w3.alloc (.cells #[.string xn, .slice p3 m c3] 27) := ⟨_, rfl⟩
    have N4 : Hid (Has W4 w3.heap.size #[.string xn, .slice p3 m c3]) := Lib.hid (by rw [hW4]; exact Has.new _ _ _)
    have E4 : Hid (Has W4 (w.heap.size + 1) #[.string ⟨#[]⟩, .slice none 0 0]) := Lib.hid (by rw [hW4]; exact E3.out.alloc _)
    have D4 : Hid (Below w.heap.size w W4) := Lib.hid (by rw [hW4]; exact next0 D3.out (below_alloc _ _))
    have S4 : Hid (SlIn (· < B) W4 x.args (.slice p3 m c3)) := Lib.hid (by rw [hW4]; exact S3.out.deep (below_alloc _ _) (Nat.le_trans HB.out D3.out.size))
    have CLf := Lib.hid (fun w' => leaf_nil xn w')
    obtain ⟨y1, y2, _⟩ := N4.out.two
    clear S3 D3 E3
    go_upto_region 2 with fail
    rw [← hW4]
    clear hW4
    go_wp2_with fail
    refine (CLf.out _).mono ?_
    rintro e w5 ⟨rfl, b5⟩
    have D5 := Lib.hid (next0 D4.out b5)
    have E5 := Lib.hid (E4.out.step0 b5)
    have N5 := Lib.hid (N4.out.step0 b5)
    have S5 := Lib.hid (S4.out.deep b5 (Nat.le_trans HB.out D4.out.size))
    have hl5 : w3.heap.size < w5.heap.size := N5.out.lt
    have hs5 : w.heap.size + 2 ≤ w5.heap.size := by omega
    clear y1 y2 b5 N4 E4 D4 S4 CLf
    obtain ⟨W6, hW6⟩ : ∃ W6, W6 = w5.alloc (.cells #[.string xn, .slice none 0 0] 27) := ⟨_, rfl⟩
    have R6 : Hid (Has W6 w5.heap.size #[.string xn, .slice none 0 0]) := Lib.hid (by rw [hW6]; exact Has.new _ _ _)
    have E6 : Hid (Has W6 (w.heap.size + 1) #[.string ⟨#[]⟩, .slice none 0 0]) := Lib.hid (by rw [hW6]; exact E5.out.alloc _)
    have N6 : Hid (Has W6 w3.heap.size #[.string xn, .slice p3 m c3]) := Lib.hid (by rw [hW6]; exact N5.out.alloc _)
    have D6 : Hid (Below w.heap.size w W6) := Lib.hid (by rw [hW6]; exact next0 D5.out (below_alloc _ _))
    have S6 : Hid (SlIn (· < B) W6 x.args (.slice p3 m c3)) := Lib.hid (by rw [hW6]; exact S5.out.deep (below_alloc _ _) (Nat.le_trans HB.out D5.out.size))
    clear D5 E5 N5 S5
    go_upto_region 3 with fail
    rw [← hW6]
    clear hW6
    obtain ⟨z1, z2, z3, z4, z5⟩ := R6.out.two
    obtain ⟨y1, y2, y3, y4, y5⟩ := E6.out.two
    have r1 := E6.out.put0 (.string xn) (.slice none 0 0)
    have r2 := E6.out.put1 (.string xn) (.slice none 0 0)
    have D7 := Lib.hid ((D6.out.setCell (p := ⟨w.heap.size + 1, 0, none⟩) (by simp) (.string xn)).setCell (p := ⟨w.heap.size + 1, 1, none⟩) (by simp) (.slice none 0 0))
    clear N6 S6 E6 R6 D6
    go_wp2_with fail
    refine bodyPost_ret (v := .agg #[.string xn, .slice none 0 0]) (by simp [results, Tryz.results56, go_sem, r1, r2]) rfl ?_
    exact ⟨none, 0, rfl, SlIn.none _ _, HXN.out ▸ O3.out.1, D7.out⟩
  | succ d ih =>
    intro hd t u hr B bm w tv hw hB hC h ot
    obtain ⟨p, c, rfl⟩ := h.form
    obtain ⟨x, hx⟩ : ∃ x, leadP D n t = some x := by
      unfold resP at hr
      cases h : leadP D n t with
      | none => rw [h] at hr; cases hr
      | some x => exact ⟨x, rfl⟩
    obtain ⟨W2, hW2⟩ : ∃ W2, W2 = (w.alloc (.cells #[.string t.nm, .slice p t.args.length c] 27)).alloc (.cells #[.string ⟨#[]⟩, .slice none 0 0] 27) := ⟨_, rfl⟩
    have B2 : Hid (Below w.heap.size w W2) := Lib.hid (by rw [hW2]; exact ((Gr.alloc _ _).more _).1)
    have hs2 : w.heap.size + 2 ≤ W2.heap.size := by rw [hW2]; simp
    have H2 : Hid (Has W2 w.heap.size #[.string t.nm, .slice p t.args.length c]) := Lib.hid (by rw [hW2]; exact (Has.new w _ _).alloc _)
    have E2 : Hid (Has W2 (w.heap.size + 1) #[.string ⟨#[]⟩, .slice none 0 0]) := Lib.hid (by rw [hW2]; exact Has.new1 w _ _ _)
    have LA := Lib.hid (fun w' (k : Below w.heap.size w w') => leader_any D n t x hx B bm w' _ (hw.below k hw.1) (Nat.le_trans hB k.size) (hC.keep k hB) (h.deep k hB) ot)
    have HB := Lib.hid hB
    unfold TmR at LA
    unfold RApR
    obtain ⟨r, hr9, e9⟩ : ∃ r, mapO (resP D n d) x.args = some r ∧ u = .mk x.nm r := by
      unfold resP at hr
      rw [hx] at hr
      simp only [Option.bind_some] at hr
      cases h9 : mapO (resP D n d) x.args with
      | none => rw [h9] at hr; cases hr
      | some r => rw [h9] at hr; cases hr; exact ⟨r, rfl, rfl⟩
    have TK := Lib.hid (mapO_take hr9)
    have ll : Hid (r.length = x.args.length) := Lib.hid (mapO_len hr9)
    have IH : Hid (∀ (a u : Tm), resP D n d a = some u → Ok a → ∀ (w' : World) (v : Value), Below w.heap.size w w' → SlIn (· < B) w' a.args v → Calls Tryz.prog 56 #[.map (some bm), .agg #[.string a.nm, v], .int .i64 d] w' (RApR 0 u w')) :=
      Lib.hid (fun a u hr o w' v k hs => ih (by omega) a u hr B bm w' v (hw.below k hw.1) (Nat.le_trans hB k.size) (hC.keep k hB) hs o)
    have hd0 : ((((d + 1 : Nat)) : Int) == 0) = false := by rw [beq_eq_false_iff_ne]; omega
    have hd1 : IntKind.i64.wrap (((d + 1 : Nat) : Int) - 1) = (d : Int) := by
      have : (((d + 1 : Nat) : Int) - 1) = (d : Int) := by omega
      rw [this]
      exact IntWalk.i64_in _ ⟨by omega, by omega⟩
    generalize (((d + 1 : Nat)) : Int) = dz at *
    have OX : Hid (∀ o : Ok x, x.args.length ≤ 1000000) := Lib.hid (fun o => by
      have h1 := o.2.2
      have h2 := len_size x.args
      obtain ⟨xn, xl⟩ := x
      simp only [sizeT, Tm.args] at h1 h2 ⊢
      omega)
    generalize t.nm = tn at *
    generalize t.args.length = tl at *
    generalize hxn : x.nm = xn at *
    have HXN := Lib.hid hxn
    generalize hm : x.args.length = m at *
    have HM := Lib.hid hm
    subst e9
    clear hC h hw hr hx hr9 ih hm
    dsimp only [Tm.nm, Tm.args]
    rw [ll.out]
    obtain ⟨y1, y2, y3, y4, y5⟩ := H2.out.two
    go_enter Tryz.func56, Tryz.ntmps56
    go_upto_region 1 with fail
    rw [← hW2]
    clear hW2
    go_wp2_with fail
    refine (LA.out _ B2.out).mono ?_
    rintro e w3 ⟨p3, c3, rfl, s3, o3, b3⟩
    have D3 := Lib.hid (next0 B2.out b3)
    have E3 := Lib.hid (E2.out.step0 b3)
    have S3 := Lib.hid s3
    have O3 := Lib.hid o3
    have hs3 : w.heap.size + 2 ≤ w3.heap.size := Nat.le_trans hs2 b3.size
    clear y1 y2 y3 y4 y5 LA H2 E2 B2 s3 b3
    obtain ⟨W4, hW4⟩ : ∃ W4, W4 = w3.alloc (.cells #[.string xn, .slice p3 m c3] 27) := ⟨_, rfl⟩
    have N4 : Hid (Has W4 w3.heap.size #[.string xn, .slice p3 m c3]) := Lib.hid (by rw [hW4]; exact Has.new _ _ _)
    have E4 : Hid (Has W4 (w.heap.size + 1) #[.string ⟨#[]⟩, .slice none 0 0]) := Lib.hid (by rw [hW4]; exact E3.out.alloc _)
    have D4 : Hid (Below w.heap.size w W4) := Lib.hid (by rw [hW4]; exact next0 D3.out (below_alloc _ _))
    have S4 : Hid (SlIn (· < B) W4 x.args (.slice p3 m c3)) := Lib.hid (by rw [hW4]; exact S3.out.deep (below_alloc _ _) (Nat.le_trans HB.out D3.out.size))
    have CLf := Lib.hid (fun w' => leaf_nil xn w')
    obtain ⟨y1, y2, _⟩ := N4.out.two
    clear S3 D3 E3
    go_upto_region 2 with fail
    rw [← hW4]
    clear hW4
    go_wp2_with fail
    refine (CLf.out _).mono ?_
    rintro e w5 ⟨rfl, b5⟩
    have D5 := Lib.hid (next0 D4.out b5)
    have E5 := Lib.hid (E4.out.step0 b5)
    have N5 := Lib.hid (N4.out.step0 b5)
    have S5 := Lib.hid (S4.out.deep b5 (Nat.le_trans HB.out D4.out.size))
    have hl5 : w3.heap.size < w5.heap.size := N5.out.lt
    have hs5 : w.heap.size + 2 ≤ w5.heap.size := by omega
    clear y1 y2 b5 N4 E4 D4 S4 CLf
    obtain ⟨W6, hW6⟩ : ∃ W6, W6 = w5.alloc (.cells #[.string xn, .slice none 0 0] 27) := ⟨_, rfl⟩
    have R6 : Hid (Has W6 w5.heap.size #[.string xn, .slice none 0 0]) := Lib.hid (by rw [hW6]; exact Has.new _ _ _)
    have E6 : Hid (Has W6 (w.heap.size + 1) #[.string ⟨#[]⟩, .slice none 0 0]) := Lib.hid (by rw [hW6]; exact E5.out.alloc _)
    have N6 : Hid (Has W6 w3.heap.size #[.string xn, .slice p3 m c3]) := Lib.hid (by rw [hW6]; exact N5.out.alloc _)
    have D6 : Hid (Below w.heap.size w W6) := Lib.hid (by rw [hW6]; exact next0 D5.out (below_alloc _ _))
    have S6 : Hid (SlIn (· < B) W6 x.args (.slice p3 m c3)) := Lib.hid (by rw [hW6]; exact S5.out.deep (below_alloc _ _) (Nat.le_trans HB.out D5.out.size))
    clear D5 E5 N5 S5
    go_upto_region 3 with fail
    rw [← hW6]
    clear hW6
    have OA := Lib.hid (fun (a : Tm) (ha : a ∈ x.args) (hn : a.nm.size ≤ maxLen) => O3.out.arg ha hn)
    obtain ⟨p', c', e1, hpn, hcc, hcm, hR⟩ := S6.out.row
    injection e1 with e1 e3 e2
    subst e1 e2
    have HR := Lib.hid hR
    have hlb : m ≤ 1000000 := by have := OX.out O3.out; omega
    clear hR hpn hcc hcm e3
    obtain ⟨z1, z2, _⟩ := N6.out.two
    go_wp2_with fail
    clear z1 z2
    have hs6 : w5.heap.size < W6.heap.size := R6.out.lt
    have hB5 : B ≤ w5.heap.size := by have := HB.out; omega
    go_loopw [23] (fun i wr => ∃ (k : Nat) (L : List (Tm × Value)) (v : Value), k ≤ m ∧ i = .int .i64 k ∧ Hid (L.map (·.1) = r.take k) ∧ Hid (OwnB 0 (w5.heap.size + 1) wr L v) ∧ Hid (Has wr w5.heap.size #[.string xn, v]) ∧ Hid (Has wr w3.heap.size #[.string xn, .slice p3 m c3]) ∧ Hid (Has wr (w.heap.size + 1) #[.string ⟨#[]⟩, .slice none 0 0]) ∧ Hid (Below w.heap.size w wr) ∧ Hid (Below B W6 wr)) (fun i _ => m - (intOf i).toNat)
    case atStart => exact ⟨0, [], _, Nat.zero_le _, rfl, Lib.hid rfl, Lib.hid (OwnB.nil _ _ _), R6, N6, E6, D6, Lib.hid (Below.refl _ _)⟩
    case round =>
      obtain ⟨k, L, v, hk, rfl, hL, hO, hC, hH, hE, hD, hK⟩ := hrel
      by_cases hlt : k < m
      · obtain ⟨t, b, o, q, d9, ht, rfl, hb, c1, c2, hs, hts⟩ := (Row.deep HR.out hK.out (Nat.le_refl _)) k (by rw [HM.out]; exact hlt)
        obtain ⟨u, hu, hru⟩ := TK.out k t ht
        have hLl : L.length = k := by
          have := congrArg List.length hL.out
          rw [List.length_map, List.length_take, ll.out] at this
          omega
        have hLl2 : L.length ≤ 1000000 := by omega
        obtain ⟨W7, hW7⟩ : ∃ W7, W7 = wr.alloc (.cells #[.string t.nm, .slice q t.args.length d9] 27) := ⟨_, rfl⟩
        have T7 : Hid (Below wr.heap.size wr W7) := Lib.hid (by rw [hW7]; exact below_alloc _ _)
        have A7 : Hid (Has W7 wr.heap.size #[.string t.nm, .slice q t.args.length d9]) := Lib.hid (by rw [hW7]; exact Has.new _ _ _)
        have IT := Lib.hid (fun w' (g : Below wr.heap.size wr w') => IH.out t u hru (OA.out t (List.mem_of_getElem? ht) hts) w' _ (next0 hD.out g) (hs.deep g (Nat.le_trans HB.out hD.out.size)))
        have hv := Lib.hid hO.out.1.lt
        have A1 : L.length + 1 ≤ maxLen := by unfold maxLen; omega
        have A2 : (L.length + 1) * 40 ≤ 140737488355328 := by omega
        have hDs := hD.out.size
        have hbs : w5.heap.size + 1 ≤ wr.heap.size := hC.out.lt
        have TT : Hid (r.take (k + 1) = r.take k ++ [u]) := Lib.hid (take_get r k u hu)
        have HD7 := Lib.hid (next0 hD.out T7.out)
        have HC7 := Lib.hid (hC.out.step0 T7.out)
        have HH7 := Lib.hid (hH.out.step0 T7.out)
        have HE7 := Lib.hid (hE.out.step0 T7.out)
        have HO7 := Lib.hid (hO.out.below T7.out)
        obtain ⟨a1, a2, _⟩ := A7.out.two
        obtain ⟨x1, x2, x3, x4, hbl⟩ := HC7.out.two
        have hwl : wr.heap.size < W7.heap.size := A7.out.lt
        clear hs hts ht hLl hu hru
        generalize t.nm = tn at *
        generalize t.args.length = ta at *
        unfold RApR at IT
        go_upto_region 8 with fail
        rw [← hW7]
        clear hW7 c1 c2
        go_region_law (first
          | (refine step_append_lies _ rfl _ _ 25 rfl (w5.heap.size + 1) 27 i0 (.agg #[.string ⟨#[]⟩, .slice none 0 0]) 2 40 Tryz.underlying25 hi hz0 hz1 hz2 rfl (by decide) v L.length (flatL L) rfl (O2.out.1.alloc _) ⟨w2.heap.size, 0, none⟩ 1 1 [.string u.nm, .slice q1 u.args.length c1'] rfl rfl (news2 _ _ _ _) (one2 _ _ _ _) (by decide) A1 A2 A3 (w2.heap.size + 1) (by simp) ?_; intro g cap w4 hown hgrow hat hlt3; have O3 := Lib.hid (O2.out.add (by omega) (by omega) S2.out NU.out hbw (fun k hk => by have := (hv.out k hk).2; omega) hown hgrow hat); have nv1 : v.ownBlock ≠ some w5.heap.size := (fun e => absurd (hv.out _ e).1 (by omega)); have nv2 : v.ownBlock ≠ some (w.heap.size + 1) := (fun e => absurd (hv.out _ e).1 (by omega)); have nv3 : v.ownBlock ≠ some w3.heap.size := (fun e => absurd (hv.out _ e).1 (by omega)); have C3 := Lib.hid (UniD.Has.grown (C2.out.alloc _) hgrow nv1); have E3 := Lib.hid (UniD.Has.grown (E2.out.alloc _) hgrow nv2); have H3 := Lib.hid (UniD.Has.grown (H2.out.alloc _) hgrow nv3); have D3 := Lib.hid ((D2.out.alloc (by exact D2.out.size) _).grown hgrow (by have := D2.out.size; simp; omega) (fun k hk => by have := (hv.out k hk).1; omega)); have K3 := Lib.hid ((K2.out.alloc (by have := hK2; omega) _).grown hgrow (by have := hK2; simp; omega) (fun k hk => by have := (hv.out k hk).1; omega)); clear hown hgrow hat; obtain ⟨u1, u2, u3, u4, u5⟩ := C3.out.two)
          | (go_simp; go_at_call 56; refine (IT.out _ (by first | exact T7.out | exact T7.out.drew | exact below_drewN T7.out _)).mono ?_; rintro e w2 ⟨q1, c1', rfl, s2, nu, b2⟩; have G2 : Below W7.heap.size W7 w2 := (by first | exact b2 | exact next0 (Below.refl _ _).drew b2 | exact next0 (below_drewN (Below.refl _ _) _) b2); have hz22 : W7.heap.size ≤ w2.heap.size := G2.size; have S2 := Lib.hid (s2.weaken (ok' := fun b => b < 0 ∨ (W7.heap.size ≤ b ∧ b < w2.heap.size)) (fun b hb => hb)); have NU := Lib.hid nu; have D2 := Lib.hid (next0 HD7.out G2); have K2 := Lib.hid (hK.out.trans ((next0 T7.out G2).mono (Nat.le_trans HB.out hDs))); have hK2 : B ≤ w2.heap.size := (by have := HB.out; omega); have hbw : w5.heap.size + 1 ≤ W7.heap.size := (by omega); have O2 := Lib.hid (HO7.out.below G2); have C2 := Lib.hid (HC7.out.step0 G2); have E2 := Lib.hid (HE7.out.step0 G2); have H2 := Lib.hid (HH7.out.step0 G2); have A3 : w5.heap.size + 1 ≤ (w2.alloc (.cells #[.string u.nm, .slice q1 u.args.length c1'] 27)).heap.size := (by have := C2.out.lt; simp; omega); clear s2 b2 G2 nu; obtain ⟨z1, z2, z3, z4, z5⟩ := C2.out.two))
        all_goals
          go_wp2_with fail
          go_roundw
          case rel => (repeat (refine Exists.intro _ ?_)); first | (refine ⟨?_, rfl⟩; exact ⟨k + 1, L ++ [(u, .slice q1 u.args.length c1')], _, by omega, by go_num, Lib.hid (by rw [List.map_append, hL.out, TT.out]; rfl), Lib.hid (O3.out.far (by simp) (Nat.zero_le _) _), Lib.hid (C3.out.set 1 _), Lib.hid (H3.out.far (by show w3.heap.size ≠ w5.heap.size; omega) _), Lib.hid (E3.out.far (by show w.heap.size + 1 ≠ w5.heap.size; omega) _), Lib.hid (D3.out.setCell (by show w.heap.size ≤ w5.heap.size; omega) _), Lib.hid (K3.out.setCell (by show B ≤ w5.heap.size; omega) _)⟩) | exact ⟨k + 1, L ++ [(u, .slice q1 u.args.length c1')], _, by omega, by go_num, Lib.hid (by rw [List.map_append, hL.out, TT.out]; rfl), Lib.hid (O3.out.far (by simp) (Nat.zero_le _) _), Lib.hid (C3.out.set 1 _), Lib.hid (H3.out.far (by show w3.heap.size ≠ w5.heap.size; omega) _), Lib.hid (E3.out.far (by show w.heap.size + 1 ≠ w5.heap.size; omega) _), Lib.hid (D3.out.setCell (by show w.heap.size ≤ w5.heap.size; omega) _), Lib.hid (K3.out.setCell (by show B ≤ w5.heap.size; omega) _)⟩
          case measure => simp [intOf]; omega
      · obtain rfl : k = m := by omega
        obtain ⟨a, c', rfl⟩ := hO.out.form
        have hLl : L.length = k := by
          have := congrArg List.length hL.out
          rw [List.length_map, List.length_take, ll.out] at this
          omega
        have HL : Hid (L.map (·.1) = r) := Lib.hid (by rw [hL.out, ← ll.out, List.take_length])
        rw [hLl] at hO hC
        obtain ⟨x1, x2, _, _, x5⟩ := hC.out.two
        obtain ⟨y1, y2, y3, y4, y5⟩ := hE.out.two
        have O4 := Lib.hid (((hO.out.far (p := ⟨w.heap.size + 1, 0, none⟩) (by show w.heap.size + 1 < w5.heap.size + 1; omega) (Nat.zero_le _) (.string xn)).far (p := ⟨w.heap.size + 1, 1, none⟩) (by show w.heap.size + 1 < w5.heap.size + 1; omega) (Nat.zero_le _) (.slice a k c')))
        have D4 := Lib.hid ((hD.out.setCell (p := ⟨w.heap.size + 1, 0, none⟩) (by simp) (.string xn)).setCell (p := ⟨w.heap.size + 1, 1, none⟩) (by simp) (.slice a k c'))
        have r1 := hE.out.put0 (.string xn) (.slice a k c')
        have r2 := hE.out.put1 (.string xn) (.slice a k c')
        clear hLl
        go_wp2_with fail
        refine bodyPost_ret (v := .agg #[.string xn, .slice a k c']) (by simp [results, Tryz.results56, go_sem, r1, r2]) rfl ?_
        refine ⟨a, c', rfl, ?_, HXN.out ▸ O3.out.1, D4.out⟩
        rw [← HL.out]
        exact O4.out.slin.weaken (fun b hb => by have := hb; omega)
end UnmD
end Go.Proofs.YtjfgnmmcdgpiiaaGreatDoor
/- A row of strings behind the library's sort; unifiers as plain data, with fuel. No conditions. -/
namespace Go.Proofs.YtjfgnmmcdgpiiaaGreatDoor
open Go Go.RowKit Go.Maps Go.WideMaps
namespace UnmE
open LexM TermM TermI Kit TermN TermU TermL TermE TermF UniK UniM UniG UniL UniD TermT UnmA UnmB UnmC UnmD
def lists (vs : List ByteArray) : List (List UInt8) := vs.map fun v => v.data.toList
def bytesOf (ls : List (List UInt8)) : List ByteArray := ls.map fun l => ⟨l.toArray⟩
/-- The strings, ascending. -/
def sortB (vs : List ByteArray) : List ByteArray := bytesOf ((lists vs).mergeSort fun x y => decide (x ≤ y))
theorem sortB_len (vs : List ByteArray) : (sortB vs).length = vs.length := by simp [sortB, bytesOf, lists]
theorem strs_bytes (ls : List (List UInt8)) : strs (bytesOf ls) = ls.map encStr := by simp [strs, bytesOf]
theorem bytes_lists (vs : List ByteArray) : bytesOf (lists vs) = vs := by
  unfold bytesOf lists
  rw [List.map_map]
  exact List.map_id _
theorem sortB_mem {vs : List ByteArray} {v : ByteArray} (h : v ∈ sortB vs) : v ∈ vs := by
  unfold sortB bytesOf at h
  obtain ⟨l, hl, rfl⟩ := List.mem_map.1 h
  have h1 := List.mem_mergeSort.1 hl
  unfold lists at h1
  obtain ⟨x, hx, rfl⟩ := List.mem_map.1 h1
  exact hx
/-- The row holds what is put into it. -/
theorem put_row {w : World} {base g cap : Nat} {ls : List (List UInt8)} {e : TypeId} {xs : List Value} (h : w.ownsRow base e 1 (.slice (some ⟨g, 0, none⟩) ls.length cap) ls.length xs) (n : Nat) (os : Array Obj) :
    (Sort.grow (Sort.putRow encStr (Sort.ahead w n) g 0 ls.toArray) os).ownsRow base e 1 (.slice (some ⟨g, 0, none⟩) ls.length cap) ls.length (ls.map encStr) ∧ Below base w (Sort.grow (Sort.putRow encStr (Sort.ahead w n) g 0 ls.toArray) os) := by
  obtain ⟨h1, h2⟩ := h
  rcases h2 with ⟨e1, _⟩ | ⟨g', cap', cur, e1, e2, e3, e4, e5, e6, e7⟩
  · cases e1
  · cases e1
    have hg : g < w.heap.size := (Array.getElem?_eq_some_iff.1 e3).1
    refine ⟨⟨by simp, Or.inr ⟨g, cap, Sort.putCells encStr 0 ls.toArray cur, rfl, e2, ?_, e4, e5, ?_, ?_⟩⟩, ⟨rfl, rfl, rfl, ?_, fun b hb => ?_⟩⟩
    · have e9 : (w.heap.modify g (Sort.onCells (Sort.putCells encStr 0 ls.toArray)))[g]? = some (.cells (Sort.putCells encStr 0 ls.toArray cur) e (0, 0)) := by rw [Array.getElem?_modify, if_pos rfl, e3]; rfl
      show ((w.heap.modify g (Sort.onCells (Sort.putCells encStr 0 ls.toArray))) ++ os)[g]? = _
      rw [Array.getElem?_append_left (by simpa using hg)]
      exact e9
    · simpa [Sort.putCells] using e6
    · apply List.ext_getElem?
      intro i
      simp only [Nat.mul_one, List.getElem?_take, List.getElem?_map]
      by_cases hi : i < ls.length
      · have hc : i < cur.size := by omega
        rw [if_pos hi]
        simp [Sort.putCells, hi, hc]
      · rw [if_neg hi]
        simp [List.getElem?_eq_none (Nat.not_lt.1 hi)]
    · simp [Sort.grow, Sort.putRow, Sort.mapBlock, Sort.ahead]
    · have : g ≠ b := by omega
      by_cases hbl : b < w.heap.size
      · show ((w.heap.modify g (Sort.onCells (Sort.putCells encStr 0 ls.toArray))) ++ os)[b]? = _
        rw [Array.getElem?_append_left (by simpa using hbl), Array.getElem?_modify, if_neg this]
      · omega
/-- The unifier. -/
def unifyP (n : Nat) (a b : Tm) : Option (Option (List Bd)) :=
  if (validT false 4 a && validT false 4 b) = false then some none else
    match joinP n [] a b with
    | none => none
    | some (_, false) => some none
    | some (D, true) => (solP D n (sortB (varsOf (leavesL [a, b])))).map fun s => if vldS s = true then some s else none
end UnmE
end Go.Proofs.YtjfgnmmcdgpiiaaGreatDoor
