/- Texts laid together: UniD; UniE. Their own heads stand before each. -/
import Derived.Test.YtdkpflojdnkbnaaGreatDoorHAE
import Derived.OwnWalk
import Derived.Laws.OwnMore
import Derived.Deep.DeepCutAuto
/- The code's replace at leaf: clone. Condition: at most a million parts. Made by genunid.py. -/
namespace Go.Proofs.YtdkpflojdnkbnaaGreatDoor
open Go Go.RowKit
namespace UniD
open LexM TermM TermI Kit TermN TermU UniK UniM UniA
theorem hmf0 : ∀ (fn : Fn) (first cap : Array Value) (w : World), (Instr.makeFunc fn first cap).run Tryz.prog w = .ok (.func fn first cap) w := fun _ _ _ _ => rfl
mutual
/-- Each leaf is replaced by what a function says for its name. -/
def repT (φ : ByteArray → Tm) : Tm → Tm
  | .mk n l => if l.isEmpty then φ n else .mk n (repL φ l)
def repL (φ : ByteArray → Tm) : List Tm → List Tm
  | [] => []
  | t :: l => repT φ t :: repL φ l
end
theorem repL_map (φ : ByteArray → Tm) : ∀ l, repL φ l = l.map (repT φ)
  | [] => rfl
  | t :: l => by simp [repL, repL_map φ l]
/-- A term comes back, its lists all in new blocks. -/
def RepR (t : Tm) (w : World) (e : Ending) (w' : World) : Prop :=
  ∃ (p : Option Addr) (c : Nat), e = .returned (.agg #[.string t.nm, .slice p t.args.length c]) ∧ SlIn (fun b => w.heap.size ≤ b ∧ b < w'.heap.size) w' t.args (.slice p t.args.length c) ∧ t.nm.size ≤ maxLen ∧ Below w.heap.size w w'
theorem Has.grown {w w' : World} {g : Nat} {cs : Array Value} {row : Option Nat} (h : Has w g cs) (hg : w.grownBy w' row) (hne : row ≠ some g) : Has w' g cs := by
  have hl := h.lt
  obtain ⟨t, h⟩ := h
  exact ⟨t, (hg.block g hl (fun e => hne e.symm)).trans h⟩
theorem cell_far {w : World} {b o : Nat} {p : Addr} {u : Value} (h : b ≠ p.block) : (w.setCell p u).cell? ⟨b, o, none⟩ = w.cell? ⟨b, o, none⟩ :=
  World.cell?_of_block (w := w) (a := ⟨b, o, none⟩) (Below.heap_setCell _ _ _ _ h)
/-- So many zero terms. -/
def restL : Nat → List Value
  | 0 => []
  | j + 1 => .string ⟨#[]⟩ :: .slice none 0 0 :: restL j
theorem rest_len : ∀ j, (restL j).length = j * 2
  | 0 => rfl
  | j + 1 => by simp [restL, rest_len j]; omega
theorem rest_get : ∀ (j i : Nat), i < j * 2 → (restL j)[i]? = some (if i % 2 = 0 then Value.string ⟨#[]⟩ else .slice none 0 0)
  | 0, i, h => by omega
  | j + 1, 0, _ => rfl
  | j + 1, 1, _ => rfl
  | j + 1, i + 2, h => by
    rw [restL, List.getElem?_cons_succ, List.getElem?_cons_succ, rest_get j i (by omega), show (i + 2) % 2 = i % 2 by omega]
theorem made_rest (n : Nat) : (madeCells (Value.agg #[.string ⟨#[]⟩, .slice none 0 0]).cells (n * 2)).toList = flatL [] ++ restL n := by
  rw [show (flatL [] : List Value) = [] from rfl, List.nil_append]
  apply List.ext_getElem?
  intro i
  have hs : (Value.agg #[Value.string ⟨#[]⟩, .slice none 0 0]).cells = #[.string ⟨#[]⟩, .slice none 0 0] := rfl
  rw [hs]
  by_cases hi : i < n * 2
  · rw [rest_get n i hi]
    unfold madeCells
    rw [Array.getElem?_toList, Array.getElem?_map, Array.getElem?_range]
    rw [if_pos hi]
    rcases Nat.mod_two_eq_zero_or_one i with h | h
    · simp [h]
    · simp [h]
  · have h1 : (restL n)[i]? = none := List.getElem?_eq_none (by rw [rest_len]; omega)
    rw [h1]
    exact List.getElem?_eq_none (by rw [Array.length_toList, size_madeCells]; omega)
theorem rest_at (L : List (Tm × Value)) (j : Nat) (hj : 0 < j) : (flatL L ++ restL j)[L.length * 2]? = some (.string ⟨#[]⟩) ∧ (flatL L ++ restL j)[L.length * 2 + 1]? = some (.slice none 0 0) := by
  obtain ⟨i, rfl⟩ : ∃ i, j = i + 1 := ⟨j - 1, by omega⟩
  have hl := flatL_len L
  constructor
  · rw [List.getElem?_append_right (by omega), show L.length * 2 - (flatL L).length = 0 by omega]; rfl
  · rw [List.getElem?_append_right (by omega), show L.length * 2 + 1 - (flatL L).length = 1 by omega]; rfl
theorem rest_set (L : List (Tm × Value)) (u : Tm) (v : Value) (j : Nat) (hj : 0 < j) : ((flatL L ++ restL j).set (L.length * 2) (.string u.nm)).set (L.length * 2 + 1) v = flatL (L ++ [(u, v)]) ++ restL (j - 1) := by
  obtain ⟨i, rfl⟩ : ∃ i, j = i + 1 := ⟨j - 1, by omega⟩
  have hl := flatL_len L
  rw [flatL_snoc, List.set_append_right _ _ (by omega), List.set_append_right _ _ (by omega), show L.length * 2 - (flatL L).length = 0 by omega, show L.length * 2 + 1 - (flatL L).length = 1 by omega, Nat.add_sub_cancel]
  simp [restL]
theorem own_bel {w w' : World} {base B : Nat} {e : TypeId} {size n : Nat} {v : Value} {xs : List Value} (h : w.ownsRow base e size v n xs) (hb : Below B w w') (hB : ∀ g, v.ownBlock = some g → g < B) : w'.ownsRow base e size v n xs := by
  refine ⟨h.1, ?_⟩
  rcases h.2 with h | ⟨g, cap, cur, e1, e2, e3, e4⟩
  · exact Or.inl h
  · exact Or.inr ⟨g, cap, cur, e1, e2, (hb.block g (hB g (by rw [e1]; rfl))).trans e3, e4⟩
theorem size_mem {l : List Tm} {t : Tm} (h : t ∈ l) : sizeT t ≤ sizeL l := by
  obtain ⟨k, hk⟩ := List.mem_iff_getElem?.1 h
  exact size_get hk
theorem slin_own {w : World} {base g n : Nat} {L : List (Tm × Value)} (hl : L.length = n) (h : w.ownsRow base 24 2 (.slice (some ⟨g, 0, none⟩) n n) n (flatL L)) (hI : ∀ x ∈ L, SlIn (fun b => g < b ∧ b < w.heap.size) w x.1.args x.2 ∧ x.1.nm.size ≤ maxLen) (hg : g < w.heap.size) :
    SlIn (fun b => g ≤ b ∧ b < w.heap.size) w (L.map (·.1)) (.slice (some ⟨g, 0, none⟩) n n) := by
  have hm : n ≤ maxLen := by
    rcases h.2 with ⟨e, _⟩ | ⟨g', cap, cur, e, _, _, hc, hcm, _⟩
    · cases e
    · injection e with _ _ e; omega
  have hlen : (L.map (·.1)).length = n := by simpa using hl
  subst hl
  rw [show L.length = (L.map (·.1)).length by simp]
  have key : ∀ (i : Nat) (t : Tm), (L.map (·.1))[i]? = some t → ∃ x : Tm × Value, L[i]? = some x ∧ x.1 = t := by
    intro i t ht
    rw [List.getElem?_map] at ht
    obtain ⟨x, a, b⟩ := Option.map_eq_some_iff.1 ht
    exact ⟨x, a, b⟩
  refine .mk _ _ _ (fun i => (L.getD i (default, undef)).2) g 0 (fun _ => ⟨rfl, Nat.le_refl _, hg⟩) (fun h => by cases h) (Nat.le_refl _) (by simpa using hm) (fun i t ht => ?_) (fun i t ht => ?_)
  · obtain ⟨x, hx, rfl⟩ := key i t ht
    have hi := (List.getElem?_eq_some_iff.1 hx).1
    obtain ⟨f1, f2⟩ := flatL_get L i x hx
    refine ⟨by rw [Nat.zero_add]; exact (h.cellAt (i * 2) (by omega)).trans f1, ?_, (hI x (List.mem_of_getElem? hx)).2⟩
    rw [Nat.zero_add]
    refine ((h.cellAt (i * 2 + 1) (by omega)).trans f2).trans ?_
    simp [List.getD, hx]
  · obtain ⟨x, hx, rfl⟩ := key i t ht
    have := (hI x (List.mem_of_getElem? hx)).1.weaken (ok' := fun b => g ≤ b ∧ b < w.heap.size) (fun b hb => ⟨by omega, hb.2⟩)
    simpa [List.getD, hx] using this
set_option maxRecDepth 100000 in
set_option maxHeartbeats 6400000 in
theorem replace_any (φ : ByteArray → Tm) (t : Tm) : ∀ (B : Nat) (w : World) (sv : Value), B ≤ w.heap.size → SlIn (· < B) w t.args sv → t.nm.size ≤ maxLen → sizeT t ≤ 1000000 →
    (∀ (w' : World) (n : ByteArray), Below w.heap.size w w' → n.size ≤ maxLen → Calls Tryz.prog 113 #[.string n] w' (RepR (φ n) w')) →
    Calls Tryz.prog 71 #[.agg #[.string t.nm, sv], .func (.func 113) #[] #[]] w (RepR (repT φ t) w) := by
  obtain ⟨i0, hi, hz0, hz1, hz2⟩ := info_parts Tryz.info28
  induction t using Tm.ind with
  | h n l ih =>
    intro B w sv hB h hnm hz HF
    dsimp only [Tm.args, Tm.nm] at h hnm ⊢
    obtain ⟨p, c, rfl, hn, hc, hm, hR⟩ := h.row
    have hls := len_size l
    simp only [sizeT] at hz
    obtain ⟨W2, hW2⟩ : ∃ W2, W2 = (w.alloc (.cells #[.string n, .slice p l.length c] 24)).alloc (.cells #[.string ⟨#[]⟩, .slice none 0 0] 24) := ⟨_, rfl⟩
    have G2 : Gr w W2 := by rw [hW2]; exact (Gr.alloc _ _).more _
    have hz2w : w.heap.size + 2 ≤ W2.heap.size := by rw [hW2]; simp
    have H2 : Hid (Has W2 w.heap.size #[.string n, .slice p l.length c]) := Lib.hid (by rw [hW2]; exact (Has.new w _ _).alloc _)
    have E2 : Hid (Has W2 (w.heap.size + 1) #[.string ⟨#[]⟩, .slice none 0 0]) := Lib.hid (by rw [hW2]; exact Has.new1 w _ _ _)
    have hmf := @hmf0
    by_cases h0 : l = []
    · subst h0
      have e1 : repT φ (.mk n []) = φ n := by simp [repT]
      rw [e1]
      have CF := Lib.hid (HF W2 n G2.1 hnm)
      clear ih hR h hz HF hls
      generalize φ n = u at *
      unfold RepR at CF ⊢
      simp only [List.length_nil] at hW2 H2
      go_enter Tryz.func71, Tryz.ntmps71
      go_upto_region 1 with fail
      rw [← hW2]
      clear hW2
      obtain ⟨x1, x2, x3, x4, x5⟩ := H2.out.two
      go_wp2_with fail
      refine CF.out.mono ?_
      rintro e w3 ⟨q, d, rfl, hS, hnu, hb⟩
      have B3 := Lib.hid (next0 G2.1 hb)
      obtain ⟨y1, y2, y3, y4, y5⟩ := (E2.out.step0 hb).two
      have r1 := (E2.out.step0 hb).put0 (.string u.nm) (.slice q u.args.length d)
      have r2 := (E2.out.step0 hb).put1 (.string u.nm) (.slice q u.args.length d)
      have S4 := Lib.hid (((hS.weaken (ok' := fun b => W2.heap.size ≤ b ∧ b < w3.heap.size) (fun b hb => hb)).frame (w' := (w3.setCell ⟨w.heap.size + 1, 0, none⟩ (.string u.nm)).setCell ⟨w.heap.size + 1, 1, none⟩ (.slice q u.args.length d)) (fun b o hb => by
        rw [cell_far (by show b ≠ w.heap.size + 1; omega), cell_far (by show b ≠ w.heap.size + 1; omega)])))
      have D4 := Lib.hid ((B3.out.setCell (p := ⟨w.heap.size + 1, 0, none⟩) (by simp) (.string u.nm)).setCell (p := ⟨w.heap.size + 1, 1, none⟩) (by simp) (.slice q u.args.length d))
      have HNU := Lib.hid hnu
      clear hS hb B3 hnu CF x1 x2 x3 x4
      go_wp2_with fail
      refine bodyPost_ret (v := .agg #[.string u.nm, .slice q u.args.length d]) (by simp [results, Tryz.results71, go_sem, y1, y2]) rfl ?_
      exact ⟨q, d, rfl, S4.out.weaken (fun b hb => ⟨by omega, by simpa [World.setCell] using hb.2⟩), HNU.out, D4.out⟩
    · have hne : l.isEmpty = false := by cases l <;> simp_all
      have e1 : repT φ (.mk n l) = .mk n (l.map (repT φ)) := by rw [repT, if_neg (by simp [hne]), repL_map]
      rw [e1]
      have hlp : 0 < l.length := List.length_pos_iff.2 h0
      obtain ⟨wm, M, O, G⟩ := run_make_full (P := Tryz.prog) W2 W2.heap.size 22 24 i0 _ 2 Tryz.underlying22 hi hz0 hz1 .i64 .i64 l.length (by rw [hz2]; omega) (by unfold maxLen; omega) (Nat.le_refl _)
      have O0 : Hid (wm.ownsRow W2.heap.size 24 2 (.slice (some ⟨W2.heap.size, 0, none⟩) l.length l.length) l.length (flatL [] ++ restL l.length)) := Lib.hid (by rw [made_rest] at O; exact O)
      have Bm := Lib.hid (next0 G2.1 ((Below.refl W2.heap.size W2).grown G (Nat.le_refl _) (fun k h => by cases h)))
      have Hm := Lib.hid (Has.grown H2.out G (by simp))
      have Em := Lib.hid (Has.grown E2.out G (by simp))
      have IH : Hid (∀ t ∈ l, ∀ (w' : World) (v : Value), Below w.heap.size w w' → SlIn (· < B) w' t.args v → t.nm.size ≤ maxLen → Calls Tryz.prog 71 #[.agg #[.string t.nm, v], .func (.func 113) #[] #[]] w' (RepR (repT φ t) w')) :=
        Lib.hid (fun t hk w' v hb h hn => ih t hk B w' v (Nat.le_trans hB hb.size) h hn (by have := size_mem hk; omega) (fun w2 n2 hb2 hn2 => HF w2 n2 (next0 hb hb2) hn2))
      have TK : Hid (∀ k t, l[k]? = some t → (l.take (k + 1)).map (repT φ) = (l.take k).map (repT φ) ++ [repT φ t]) := Lib.hid (fun k t h => by rw [take_get l k t h]; simp)
      have FT : Hid ((l.take l.length).map (repT φ) = l.map (repT φ)) := Lib.hid (by simp)
      have HB := Lib.hid hB
      have HR := Lib.hid hR
      have HNM := Lib.hid hnm
      have hlb : l.length ≤ 1000000 := by omega
      have ll : Hid ((l.map (repT φ)).length = l.length) := Lib.hid (by simp)
      unfold RepR
      dsimp only [Tm.nm, Tm.args]
      rw [ll.out]
      generalize hm' : l.length = m at *
      have HM := Lib.hid hm'
      clear ih hR h hm' hn hls hz HF O G ll
      have hm0 : ((m : Int) == 0) = false := by rw [beq_eq_false_iff_ne]; omega
      go_enter Tryz.func71, Tryz.ntmps71
      go_upto_region 1 with fail
      rw [← hW2]
      clear hW2
      obtain ⟨x1, x2, x3, x4, x5⟩ := H2.out.two
      go_upto_region 3 with fail
      go_upto_region 4 with fail
      clear x1 x2 x3 x4 x5
      obtain ⟨x1, x2, x3, x4, x5⟩ := Hm.out.two
      go_wp2_with fail
      go_loopw [23] (fun i wr => ∃ (k : Nat) (L : List (Tm × Value)), k ≤ m ∧ i = .int .i64 k ∧ Hid (L.map (·.1) = (l.take k).map (repT φ)) ∧ Hid (wr.ownsRow W2.heap.size 24 2 (.slice (some ⟨W2.heap.size, 0, none⟩) m m) m (flatL L ++ restL (m - k))) ∧ Hid (∀ x ∈ L, SlIn (fun b => W2.heap.size < b ∧ b < wr.heap.size) wr x.1.args x.2 ∧ x.1.nm.size ≤ maxLen) ∧ Hid (Has wr w.heap.size #[.string n, .slice p m c]) ∧ Hid (Has wr (w.heap.size + 1) #[.string ⟨#[]⟩, .slice none 0 0]) ∧ Hid (Below w.heap.size w wr) ∧ W2.heap.size < wr.heap.size) (fun i _ => m - (intOf i).toNat)
      case atStart => exact ⟨0, [], Nat.zero_le _, rfl, Lib.hid rfl, O0, Lib.hid (fun x hx => absurd hx (List.not_mem_nil)), Hm, Em, Bm, (World.ownsRow.lt O0.out _ rfl).2⟩
      case round =>
        obtain ⟨k, L, hk, rfl, hL, hO, hI, hH, hE, hD, hsz⟩ := hrel
        have hLl : L.length = k := by
          have := congrArg List.length hL.out
          rw [List.length_map, List.length_map, List.length_take, HM.out] at this
          omega
        by_cases hlt : k < m
        · obtain ⟨t, b, o, q, d, ht, rfl, hb, c1, c2, hs, hts⟩ := (Row.deep HR.out hD.out HB.out) k (by rw [HM.out]; exact hlt)
          have TT := Lib.hid (TK.out k t ht)
          obtain ⟨W4, hW4⟩ : ∃ W4, W4 = wr.alloc (.cells #[.string t.nm, .slice q t.args.length d] 24) := ⟨_, rfl⟩
          have D4 : Below w.heap.size w W4 := by rw [hW4]; exact next0 hD.out (below_alloc _ _)
          have k4 : Below wr.heap.size wr W4 := by rw [hW4]; exact below_alloc _ _
          have hz4 : W4.heap.size = wr.heap.size + 1 := by rw [hW4]; simp
          obtain ⟨y1, y2, _⟩ := (show Has W4 wr.heap.size #[.string t.nm, .slice q t.args.length d] by rw [hW4]; exact Has.new _ _ _).two
          have CI := Lib.hid (IH.out t (List.mem_of_getElem? ht) W4 _ D4 (hs.deep k4 (Nat.le_trans HB.out hD.out.size)) hts)
          have DD := Lib.hid D4
          have KK4 := Lib.hid k4
          clear hs hts ht D4 k4
          generalize t.nm = tn at *
          generalize t.args.length = ta at *
          generalize repT φ t = u at *
          unfold RepR at CI
          go_upto_region 7 with fail
          rw [← hW4]
          clear hW4 c1 c2
          go_wp2_with fail
          refine CI.out.mono ?_
          rintro e w5 ⟨q5, d5, rfl, hS5, hn5, hb5⟩
          have B5 := Lib.hid (next0 DD.out hb5)
          have K5 := Lib.hid (next0 KK4.out hb5)
          have O5 := Lib.hid (own_bel hO.out K5.out (fun g h => by cases h; exact hsz))
          have HO5 := Lib.hid (Has.step0 hH.out K5.out)
          have E5 := Lib.hid (Has.step0 hE.out K5.out)
          have I5 : Hid (∀ x ∈ L, SlIn (fun b => W2.heap.size < b ∧ b < w5.heap.size) w5 x.1.args x.2 ∧ x.1.nm.size ≤ maxLen) := Lib.hid (fun x hx => ⟨((hI.out x hx).1.frame fun b o hb => K5.out.cell (p := ⟨b, o, none⟩) hb.2).weaken fun b hb => ⟨hb.1, Nat.lt_of_lt_of_le hb.2 K5.out.size⟩, (hI.out x hx).2⟩)
          have S5 := Lib.hid hS5
          have N5 := Lib.hid hn5
          have hz5 : wr.heap.size + 1 ≤ w5.heap.size := by have := hb5.size; omega
          clear hS5 hn5 hb5 CI y1 y2 DD
          obtain ⟨r1, r2⟩ := rest_at L (m - k) (by omega)
          rw [hLl] at r1 r2
          have z1 := (O5.out.cellAt (k * 2) (by omega)).trans r1
          have z2 := (O5.out.cellAt (k * 2 + 1) (by omega)).trans r2
          have f1 := O5.out.frozenAt (k * 2)
          have f2 := O5.out.frozenAt (k * 2 + 1)
          have ST1 := Lib.hid (O5.out.stored (k * 2) (.string u.nm))
          have ST2 := Lib.hid (ST1.out.1.stored (k * 2 + 1) (.slice q5 u.args.length d5))
          have hgb : W2.heap.size < w5.heap.size := by omega
          have NX := Lib.hid (rest_set L u (.slice q5 u.args.length d5) (m - k) (by omega))
          rw [hLl] at NX
          clear r1 r2
          have FAR : Hid (∀ b o, b ≠ W2.heap.size → ((w5.setCell ⟨W2.heap.size, k * 2, none⟩ (.string u.nm)).setCell ⟨W2.heap.size, k * 2 + 1, none⟩ (.slice q5 u.args.length d5)).cell? ⟨b, o, none⟩ = w5.cell? ⟨b, o, none⟩) := Lib.hid (fun b o hb => by rw [cell_far hb, cell_far hb])
          have fin : Hid (∀ w6, w6 = (w5.setCell ⟨W2.heap.size, k * 2, none⟩ (.string u.nm)).setCell ⟨W2.heap.size, k * 2 + 1, none⟩ (.slice q5 u.args.length d5) → 
              Hid ((L ++ [(u, Value.slice q5 u.args.length d5)]).map (·.1) = (l.take (k + 1)).map (repT φ)) ∧ Hid (w6.ownsRow W2.heap.size 24 2 (.slice (some ⟨W2.heap.size, 0, none⟩) m m) m (flatL (L ++ [(u, Value.slice q5 u.args.length d5)]) ++ restL (m - (k + 1)))) ∧ Hid (∀ x ∈ L ++ [(u, Value.slice q5 u.args.length d5)], SlIn (fun b => W2.heap.size < b ∧ b < w6.heap.size) w6 x.1.args x.2 ∧ x.1.nm.size ≤ maxLen) ∧ Hid (Has w6 w.heap.size #[.string n, .slice (some ⟨b, o, none⟩) m c]) ∧ Hid (Has w6 (w.heap.size + 1) #[.string ⟨#[]⟩, .slice none 0 0]) ∧ Hid (Below w.heap.size w w6) ∧ W2.heap.size < w6.heap.size) := Lib.hid (by
            rintro w6 rfl
            refine ⟨Lib.hid (by rw [List.map_append, hL.out, TT.out]; rfl), Lib.hid (by have := ST2.out.1; rw [NX.out] at this; rw [show m - (k + 1) = m - k - 1 by omega]; exact this), Lib.hid (fun x hx => ?_), Lib.hid ((HO5.out.far (by show w.heap.size ≠ W2.heap.size; omega) _).far (by show w.heap.size ≠ W2.heap.size; omega) _), Lib.hid ((E5.out.far (by show w.heap.size + 1 ≠ W2.heap.size; omega) _).far (by show w.heap.size + 1 ≠ W2.heap.size; omega) _), Lib.hid ((B5.out.setCell (by show w.heap.size ≤ W2.heap.size; omega) _).setCell (by show w.heap.size ≤ W2.heap.size; omega) _), by simpa [World.setCell] using hgb⟩
            rcases List.mem_append.1 hx with hx | hx
            · exact ⟨((I5.out x hx).1.frame fun b o hb => FAR.out b o (by omega)).weaken fun b hb => ⟨hb.1, by simpa [World.setCell] using hb.2⟩, (I5.out x hx).2⟩
            · obtain rfl := List.mem_singleton.1 hx
              exact ⟨((S5.out.weaken (ok' := fun b => W2.heap.size < b ∧ b < w5.heap.size) fun b hb => ⟨by omega, hb.2⟩).frame fun b o hb => FAR.out b o (by omega)).weaken fun b hb => ⟨hb.1, by simpa [World.setCell] using hb.2⟩, N5.out⟩)
          clear ST1 ST2 NX FAR I5 S5 N5 HO5 E5 hI hO hH hE hL TT K5 KK4
          go_wp2_with fail
          go_roundw
          case rel => exact ⟨k + 1, _, by omega, by go_num, fin.out _ rfl⟩
          case measure => simp [intOf]; omega
        · obtain rfl : k = m := by omega
          have HL : Hid (L.map (·.1) = l.map (repT φ)) := Lib.hid (by rw [hL.out, FT.out])
          have OW := hO.out
          rw [Nat.sub_self, show restL 0 = [] from rfl, List.append_nil] at OW
          obtain ⟨x1, x2, _, _, x5⟩ := hH.out.two
          obtain ⟨y1, y2, y3, y4, y5⟩ := hE.out.two
          have r1 := hE.out.put0 (.string n) (.slice (some ⟨W2.heap.size, 0, none⟩) k k)
          have r2 := hE.out.put1 (.string n) (.slice (some ⟨W2.heap.size, 0, none⟩) k k)
          have S4 : Hid (SlIn (fun b => w.heap.size ≤ b ∧ b < ((wr.setCell ⟨w.heap.size + 1, 0, none⟩ (.string n)).setCell ⟨w.heap.size + 1, 1, none⟩ (.slice (some ⟨W2.heap.size, 0, none⟩) k k)).heap.size) ((wr.setCell ⟨w.heap.size + 1, 0, none⟩ (.string n)).setCell ⟨w.heap.size + 1, 1, none⟩ (.slice (some ⟨W2.heap.size, 0, none⟩) k k)) (l.map (repT φ)) (.slice (some ⟨W2.heap.size, 0, none⟩) k k)) := Lib.hid (by
            rw [← HL.out]
            have := slin_own hLl OW hI.out hsz
            exact (this.frame fun b o hb => by rw [cell_far (by show b ≠ w.heap.size + 1; omega), cell_far (by show b ≠ w.heap.size + 1; omega)]).weaken fun b hb => ⟨by omega, by simpa [World.setCell] using hb.2⟩)
          have D4 := Lib.hid ((hD.out.setCell (p := ⟨w.heap.size + 1, 0, none⟩) (by simp) (.string n)).setCell (p := ⟨w.heap.size + 1, 1, none⟩) (by simp) (.slice (some ⟨W2.heap.size, 0, none⟩) k k))
          clear OW hO hI hL HL hD hLl
          go_wp2_with fail
          refine bodyPost_ret (v := .agg #[.string n, .slice (some ⟨W2.heap.size, 0, none⟩) k k]) (by simp [results, Tryz.results71, go_sem, y1, y2]) rfl ?_
          exact ⟨_, _, rfl, S4.out, HNM.out, D4.out⟩
theorem leaf_any (n : ByteArray) (w : World) (hn : n.size ≤ maxLen) : Calls Tryz.prog 113 #[.string n] w (RepR (.mk n []) w) := by
  unfold RepR
  go_enter Tryz.func113, Tryz.ntmps113
  go_wp2_with fail
  refine bodyPost_ret (v := .agg #[.string n, .slice none 0 0]) (by simp [results, Tryz.results113, go_sem]) rfl ?_
  exact ⟨none, 0, rfl, SlIn.none _ _, hn, below_alloc w _⟩
theorem rep_leaf (t : Tm) : repT (fun n => .mk n []) t = t := by
  induction t using Tm.ind with
  | h n l ih =>
    rw [repT]
    split
    · rename_i h; cases l <;> simp_all
    · rw [repL_map]
      congr 1
      conv => rhs; rw [← List.map_id l]
      exact List.map_congr_left ih
set_option maxRecDepth 100000 in
theorem clone_any (t : Tm) (B : Nat) (w : World) (sv : Value) (hB : B ≤ w.heap.size) (h : SlIn (· < B) w t.args sv) (hn : t.nm.size ≤ maxLen) (hz : sizeT t ≤ 1000000) :
    Calls Tryz.prog 150 #[.agg #[.string t.nm, sv]] w (RepR t w) := by
  obtain ⟨p, c, rfl⟩ := h.form
  obtain ⟨W2, hW2⟩ : ∃ W2, W2 = (w.alloc (.cells #[.string t.nm, .slice p t.args.length c] 24)).alloc (.cells #[.string ⟨#[]⟩, .slice none 0 0] 24) := ⟨_, rfl⟩
  have G2 : Gr w W2 := by rw [hW2]; exact (Gr.alloc _ _).more _
  have H2 : Hid (Has W2 w.heap.size #[.string t.nm, .slice p t.args.length c]) := Lib.hid (by rw [hW2]; exact (Has.new w _ _).alloc _)
  have E2 : Hid (Has W2 (w.heap.size + 1) #[.string ⟨#[]⟩, .slice none 0 0]) := Lib.hid (by rw [hW2]; exact Has.new1 w _ _ _)
  have hz2w : w.heap.size + 2 ≤ W2.heap.size := by rw [hW2]; simp
  have C := replace_any (fun n => .mk n []) t B W2 (.slice p t.args.length c) (Nat.le_trans hB G2.size) (h.gr G2 hB) hn hz (fun w' n _ hn => leaf_any n w' hn)
  rw [rep_leaf] at C
  have C1 := Lib.hid C
  have GG := Lib.hid G2
  clear C h hB hz G2
  have hmf := @hmf0
  unfold RepR at C1 ⊢
  generalize t.nm = tn at *
  generalize t.args.length = ta at *
  go_enter Tryz.func150, Tryz.ntmps150
  go_upto_region 1 with fail
  rw [← hW2]
  clear hW2
  obtain ⟨x1, x2, x3, x4, x5⟩ := H2.out.two
  go_wp2_with fail
  refine C1.out.mono ?_
  rintro e w3 ⟨q, d, rfl, hS, hnu, hb⟩
  have B3 := Lib.hid (next0 GG.out.1 hb)
  obtain ⟨y1, y2, y3, y4, y5⟩ := (E2.out.step0 hb).two
  have r1 := (E2.out.step0 hb).put0 (.string tn) (.slice q ta d)
  have r2 := (E2.out.step0 hb).put1 (.string tn) (.slice q ta d)
  have S4 := Lib.hid (((hS.weaken (ok' := fun b => W2.heap.size ≤ b ∧ b < w3.heap.size) (fun b hb => hb)).frame (w' := (w3.setCell ⟨w.heap.size + 1, 0, none⟩ (.string tn)).setCell ⟨w.heap.size + 1, 1, none⟩ (.slice q ta d)) (fun b o hb => by
    rw [cell_far (by show b ≠ w.heap.size + 1; omega), cell_far (by show b ≠ w.heap.size + 1; omega)])))
  have D4 := Lib.hid ((B3.out.setCell (p := ⟨w.heap.size + 1, 0, none⟩) (by simp) (.string tn)).setCell (p := ⟨w.heap.size + 1, 1, none⟩) (by simp) (.slice q ta d))
  have HNU := Lib.hid hnu
  clear hS hb B3 hnu C1 x1 x2 x3 x4
  go_wp2_with fail
  refine bodyPost_ret (v := .agg #[.string tn, .slice q ta d]) (by simp [results, Tryz.results150, go_sem, y1, y2]) rfl ?_
  exact ⟨q, d, rfl, S4.out.weaken (fun b hb => ⟨by omega, by simpa [World.setCell] using hb.2⟩), HNU.out, D4.out⟩
end UniD
end Go.Proofs.YtdkpflojdnkbnaaGreatDoor
/- Lookup of the code, and the function that replaces a leaf as a substitution does. Conditions: the substitution's names ascend, its terms have at most a million parts. Made by genunid.py. -/
namespace Go.Proofs.YtdkpflojdnkbnaaGreatDoor
open Go Go.RowKit
namespace UniE
open LexM TermM TermI Kit TermN TermU UniK UniM UniA UniC UniD
theorem eq_lex {a b : ByteArray} : eqB a b = true ↔ lexB a.data.toList b.data.toList = 0 := by
  unfold eqB
  rw [beq_iff_eq, lex_zero]
theorem look_none {s : List Bd} {u : ByteArray} (h : ∀ y ∈ s, lexB y.1.data.toList u.data.toList ≠ 0) : lookS s u = none := by
  unfold lookS
  rw [List.find?_eq_none.2 (fun y hy => by
    intro e
    exact h y hy (eq_lex.1 e))]
  rfl
theorem look_found {s : List Bd} {u : ByteArray} (hS : Srt s) {i : Nat} {y : Bd} (hy : s[i]? = some y) (h0 : lexB y.1.data.toList u.data.toList = 0) : lookS s u = some y.2 := by
  unfold lookS
  cases hf : s.find? (fun b => eqB b.1 u) with
  | none =>
    have := List.find?_eq_none.1 hf y (List.mem_of_getElem? hy)
    exact absurd (eq_lex.2 h0) this
  | some x =>
    have h1 : lexB x.1.data.toList u.data.toList = 0 := eq_lex.1 (by simpa using List.find?_some (p := fun b : Bd => eqB b.1 u) hf)
    obtain ⟨j, hj⟩ := List.mem_iff_getElem?.1 (List.mem_of_find?_eq_some hf)
    have e1 := (lex_zero _ _).1 h0
    have e2 := (lex_zero _ _).1 h1
    have hij : i = j := by
      rcases Nat.lt_trichotomy i j with h | h | h
      · have := hS i j y x h hy hj
        rw [e1, e2, (lex_zero _ _).2 rfl] at this
        omega
      · exact h
      · have := hS j i x y h hj hy
        rw [e1, e2, (lex_zero _ _).2 rfl] at this
        omega
    subst hij
    rw [hy] at hj
    cases hj
    rfl
theorem look_not {s : List Bd} {u : ByteArray} (hS : Srt s) {i : Nat} (h1 : ∀ (j : Nat) (y : Bd), j < i → s[j]? = some y → lexB y.1.data.toList u.data.toList < 0) (h2 : ∀ (j : Nat) (y : Bd), i ≤ j → s[j]? = some y → 0 ≤ lexB y.1.data.toList u.data.toList) (h3 : ¬ ∃ y, s[i]? = some y ∧ lexB y.1.data.toList u.data.toList = 0) : lookS s u = none := by
  refine look_none fun y hy h0 => ?_
  obtain ⟨j, hj⟩ := List.mem_iff_getElem?.1 hy
  rcases Nat.lt_trichotomy j i with h | h | h
  · have := h1 j y h hj; omega
  · subst h; exact h3 ⟨y, hj, h0⟩
  · have hl := (List.getElem?_eq_some_iff.1 hj).1
    obtain ⟨x, hx⟩ : ∃ x, s[i]? = some x := ⟨s[i]'(by omega), by simp⟩
    have a1 := hS i j x y h hx hj
    have a2 := h2 i x (Nat.le_refl _) hx
    have a3 := (tri_lex x.1.data.toList y.1.data.toList u.data.toList).2.1 a1 (by omega)
    omega
/-- What Lookup leaves. -/
def LkR (o : Option Tm) (w : World) (e : Ending) (w' : World) : Prop :=
  ∃ (u : Tm) (p : Option Addr) (c : Nat) (f : Bool), e = .returned (.tuple #[.agg #[.string u.nm, .slice p u.args.length c], .bool f]) ∧ ((o = some u ∧ f = true) ∨ (o = none ∧ u = .mk ⟨#[]⟩ [] ∧ f = false)) ∧
    SlIn (fun b => w.heap.size ≤ b ∧ b < w'.heap.size) w' u.args (.slice p u.args.length c) ∧ u.nm.size ≤ maxLen ∧ Below w.heap.size w w'
/-- The sizes that a substitution is read under. -/
def Sz (s : List Bd) : Prop := s.length ≤ 3000000 ∧ ∀ y ∈ s, sizeT y.2 ≤ 1000000
set_option maxRecDepth 100000 in
set_option maxHeartbeats 3200000 in
theorem lookup_any (s : List Bd) (v : ByteArray) (hS : Srt s) (hz : Sz s) (B : Nat) (w : World) (sv : Value) (hB : B ≤ w.heap.size) (h : SIn (· < B) w s sv) :
    Calls Tryz.prog 112 #[sv, .string v] w (LkR (lookS s v) w) := by
  obtain ⟨W1, hW1⟩ : ∃ W1, W1 = w.alloc (.cells #[.string ⟨#[]⟩, .slice none 0 0] 24) := ⟨_, rfl⟩
  have G1 : Gr w W1 := by rw [hW1]; exact Gr.alloc _ _
  have H1 : Hid (Has W1 w.heap.size #[.string ⟨#[]⟩, .slice none 0 0]) := Lib.hid (by rw [hW1]; exact Has.new _ _ _)
  have hz1 : w.heap.size + 1 ≤ W1.heap.size := by rw [hW1]; simp
  have CF := Lib.hid (find_any s v hS hz.1 B W1 sv (Nat.le_trans hB G1.size) (h.gr G1 hB))
  obtain ⟨p, c, rfl, hc, hm, hR⟩ := SIn.row h
  have HR := Lib.hid hR
  have HB := Lib.hid hB
  have HS := Lib.hid hS
  have SZ := Lib.hid hz.2
  have GG := Lib.hid G1
  have CL := Lib.hid (fun (t : Tm) (w' : World) (v : Value) (hw : B ≤ w'.heap.size) (hs : SlIn (· < B) w' t.args v) (hn : t.nm.size ≤ maxLen) (hz : sizeT t ≤ 1000000) => clone_any t B w' v hw hs hn hz)
  generalize hln : s.length = n at *
  have HN := Lib.hid hln
  clear h hR hB hS hz hc hm G1 hln
  unfold FoundS at CF
  rw [HN.out] at CF
  unfold LkR
  go_enter Tryz.func112, Tryz.ntmps112
  go_upto_region 1 with fail
  rw [← hW1]
  clear hW1
  go_wp2_with fail
  refine CF.out.mono ?_
  rintro e w2 ⟨⟨i, f, h1, rfl, h2, h3, h4⟩, g⟩
  have G2 := Lib.hid (GG.out.trans g)
  have H2 := Lib.hid (H1.out.step0 g.1)
  have hz2 : w.heap.size + 1 ≤ w2.heap.size := Nat.le_trans hz1 g.size
  cases f
  · have NO := Lib.hid (look_not HS.out h2 h3 (fun hh => by have := h4.2 hh; simp at this))
    obtain ⟨y1, y2, y3, y4, y5⟩ := H2.out.two
    clear h2 h3 h4 g CF CL HR
    go_wp2_with fail
    refine bodyPost_ret (v := .tuple #[.agg #[.string ⟨#[]⟩, .slice none 0 0], .bool false]) ?_ rfl ?_
    · have r1 := H2.out.put0 (.string ⟨#[]⟩) (.slice none 0 0)
      have r2 := H2.out.put1 (.string ⟨#[]⟩) (.slice none 0 0)
      simp [results, Tryz.results112, go_sem, r1, r2]
    · exact ⟨.mk ⟨#[]⟩ [], none, 0, false, rfl, Or.inr ⟨NO.out, rfl, rfl⟩, SlIn.none _ _, by show (0 : Nat) ≤ maxLen; exact Nat.zero_le _, ((G2.out.1.setCell (by simp) _).setCell (by simp) _)⟩
  · obtain ⟨y, hy, h0⟩ := h4.1 rfl
    have hi : i < n := by have := (List.getElem?_eq_some_iff.1 hy).1; have := HN.out; omega
    have FO := Lib.hid (look_found HS.out hy h0)
    obtain ⟨t, b, o, q, d, ht, rfl, hb, c1, c2, c3, hs, hts, htv⟩ := (RowS.gr HR.out G2.out HB.out) i (by rw [HN.out]; exact hi)
    rw [hy] at ht
    cases ht
    have C2 := Lib.hid (CL.out y.2 w2 _ (Nat.le_trans HB.out G2.out.size) hs hts (SZ.out y (List.mem_of_getElem? hy)))
    clear h2 h3 h4 g CF CL HR hs hts htv h0 hy
    obtain ⟨u, hu⟩ : ∃ u, u = y.2 := ⟨_, rfl⟩
    rw [← hu] at FO C2 c2 c3
    unfold RepR at C2
    clear hu c1
    go_wp2_with fail
    refine C2.out.mono ?_
    rintro e w3 ⟨q2, d2, rfl, hS, hnu, hb⟩
    have B3 := Lib.hid (next0 G2.out.1 hb)
    have hge := hb.size
    obtain ⟨y1, y2, y3, y4, y5⟩ := (H2.out.step0 hb).two
    have r1 := (H2.out.step0 hb).put0 (.string u.nm) (.slice q2 u.args.length d2)
    have r2 := (H2.out.step0 hb).put1 (.string u.nm) (.slice q2 u.args.length d2)
    have S4 := Lib.hid (((hS.weaken (ok' := fun b => w2.heap.size ≤ b ∧ b < w3.heap.size) (fun b hb => hb)).frame (w' := (w3.setCell ⟨w.heap.size, 0, none⟩ (.string u.nm)).setCell ⟨w.heap.size, 1, none⟩ (.slice q2 u.args.length d2)) (fun b o hb => by
      rw [cell_far (by show b ≠ w.heap.size; omega), cell_far (by show b ≠ w.heap.size; omega)])))
    have D4 := Lib.hid ((B3.out.setCell (p := ⟨w.heap.size, 0, none⟩) (by simp) (.string u.nm)).setCell (p := ⟨w.heap.size, 1, none⟩) (by simp) (.slice q2 u.args.length d2))
    have HNU := Lib.hid hnu
    clear hS hb B3 hnu C2 c2 c3
    go_wp2_with fail
    refine bodyPost_ret (v := .tuple #[.agg #[.string u.nm, .slice q2 u.args.length d2], .bool true]) (by simp [results, Tryz.results112, go_sem, r1, r2]) rfl ?_
    exact ⟨u, q2, d2, true, rfl, Or.inl ⟨FO.out, rfl⟩, S4.out.weaken (fun b hb => ⟨by omega, by simpa [World.setCell] using hb.2⟩), HNU.out, D4.out⟩
/-- What stands for a leaf under a substitution. -/
def leafS (s : List Bd) (n : ByteArray) : Tm := (lookS s n).getD (.mk n [])
theorem rep_app (s : List Bd) (t : Tm) : repT (leafS s) t = appT s t := by
  induction t using Tm.ind with
  | h n l ih =>
    rw [repT, appT]
    split
    · rfl
    · rw [repL_map, appL_map]
      congr 1
      exact List.map_congr_left ih
set_option maxRecDepth 100000 in
set_option maxHeartbeats 3200000 in
theorem replacer_any (s : List Bd) (n : ByteArray) (hn : n.size ≤ maxLen) (hS : Srt s) (hz : Sz s) (B g : Nat) (w : World) (sv : Value) (hB : B ≤ w.heap.size) (h : SIn (· < B) w s sv) (hg : Has w g #[sv]) :
    Calls Tryz.prog 111 #[.string n, .pointer (some ⟨g, 0, none⟩)] w (RepR (leafS s n) w) := by
  obtain ⟨W1, hW1⟩ : ∃ W1, W1 = w.alloc (.cells #[.string ⟨#[]⟩, .slice none 0 0] 24) := ⟨_, rfl⟩
  have G1 : Gr w W1 := by rw [hW1]; exact Gr.alloc _ _
  have H1 : Hid (Has W1 w.heap.size #[.string ⟨#[]⟩, .slice none 0 0]) := Lib.hid (by rw [hW1]; exact Has.new _ _ _)
  have hz1 : w.heap.size + 1 ≤ W1.heap.size := by rw [hW1]; simp
  have c0 : W1.cell? ⟨g, 0, none⟩ = some sv := (hg.step0 G1.1).cell 0
  have CF := Lib.hid (lookup_any s n hS hz B W1 sv (Nat.le_trans hB G1.size) (h.gr G1 hB))
  obtain ⟨p, c, rfl⟩ := h.form
  have GG := Lib.hid G1
  have LF : Hid (leafS s n = (lookS s n).getD (.mk n [])) := Lib.hid rfl
  have CL : Hid (∀ w', Calls Tryz.prog 113 #[.string n] w' fun e w'' => ∃ (q : Option Addr) (d : Nat), e = .returned (.agg #[.string n, .slice q 0 d]) ∧ SlIn (fun b => w'.heap.size ≤ b ∧ b < w''.heap.size) w'' [] (.slice q 0 d) ∧ Below w'.heap.size w' w'') := Lib.hid (fun w' => (leaf_any n w' hn).mono fun _ _ ⟨q, d, h1, h2, _, h4⟩ => ⟨q, d, h1, h2, h4⟩)
  have HN := Lib.hid hn
  generalize s.length = m at *
  clear h hB hS hz G1 hg
  generalize lookS s n = o at *
  generalize leafS s n = r at *
  unfold LkR at CF
  unfold RepR
  go_enter Tryz.func111, Tryz.ntmps111
  go_upto_region 1 with fail
  rw [← hW1]
  clear hW1
  go_wp2_with fail
  refine CF.out.mono ?_
  rintro e w2 ⟨u, q, d, f, rfl, hf, hS2, hnu, hb2⟩
  have B2 := Lib.hid (next0 GG.out.1 hb2)
  have H2 := Lib.hid (H1.out.step0 hb2)
  have hz2 : w.heap.size + 1 ≤ w2.heap.size := Nat.le_trans hz1 hb2.size
  have S2 := Lib.hid hS2
  have NU := Lib.hid hnu
  have FF := Lib.hid hf
  clear hf hS2 hnu hb2 CF c0
  go_upto_region 2 with fail
  obtain ⟨W3, hW3⟩ : ∃ W3, W3 = w2.alloc (.cells #[.string u.nm, .slice q u.args.length d] 24) := ⟨_, rfl⟩
  have k3 : Below w2.heap.size w2 W3 := by rw [hW3]; exact below_alloc _ _
  have hz3 : W3.heap.size = w2.heap.size + 1 := by rw [hW3]; simp
  obtain ⟨x1, x2, _⟩ := (show Has W3 w2.heap.size #[.string u.nm, .slice q u.args.length d] by rw [hW3]; exact Has.new _ _ _).two
  rw [← hW3]
  clear hW3
  have B3 := Lib.hid (next0 B2.out k3)
  have H3 := Lib.hid (H2.out.step0 k3)
  have S3 := Lib.hid ((S2.out.frame fun b o hb => k3.cell (p := ⟨b, o, none⟩) hb.2).weaken (ok' := fun b => W1.heap.size ≤ b ∧ b < W3.heap.size) fun b hb => ⟨hb.1, Nat.lt_of_lt_of_le hb.2 k3.size⟩)
  obtain ⟨y1, y2, y3, y4, y5⟩ := H3.out.two
  clear k3 S2 B2 H2 H1 GG
  cases f
  · have RF : Hid (r = .mk n []) := Lib.hid (by
      rcases FF.out with ⟨_, h⟩ | ⟨h1, h2, _⟩
      · cases h
      · rw [LF.out, h1]; rfl)
    go_wp2_with fail
    refine (CL.out W3).mono ?_
    rintro e w4 ⟨q4, d4, rfl, hS4, hb4⟩
    have B4 := Lib.hid (next0 B3.out hb4)
    have hz4 := hb4.size
    obtain ⟨z1, z2, z3, z4, z5⟩ := (H3.out.step0 hb4).two
    have r1 := (H3.out.step0 hb4).put0 (.string n) (.slice q4 0 d4)
    have r2 := (H3.out.step0 hb4).put1 (.string n) (.slice q4 0 d4)
    have S5 := Lib.hid (((hS4.weaken (ok' := fun b => W3.heap.size ≤ b ∧ b < w4.heap.size) (fun b hb => hb)).frame (w' := (w4.setCell ⟨w.heap.size, 0, none⟩ (.string n)).setCell ⟨w.heap.size, 1, none⟩ (.slice q4 0 d4)) (fun b o hb => by
      rw [cell_far (by show b ≠ w.heap.size; omega), cell_far (by show b ≠ w.heap.size; omega)])))
    have D5 := Lib.hid ((B4.out.setCell (p := ⟨w.heap.size, 0, none⟩) (by simp) (.string n)).setCell (p := ⟨w.heap.size, 1, none⟩) (by simp) (.slice q4 0 d4))
    have RR := Lib.hid RF.out
    clear hS4 hb4 B4 x1 x2 y1 y2 y3 y4 y5 CL S3 B3 RF LF FF
    go_wp2_with fail
    refine bodyPost_ret (v := .agg #[.string n, .slice q4 0 d4]) (by simp [results, Tryz.results111, go_sem, r1, r2]) rfl ?_
    rw [RR.out]
    exact ⟨q4, d4, rfl, S5.out.weaken (fun b hb => ⟨by omega, by simpa [World.setCell] using hb.2⟩), HN.out, D5.out⟩
  · have RF : Hid (r = u) := Lib.hid (by
      rcases FF.out with ⟨h1, _⟩ | ⟨_, _, h⟩
      · rw [LF.out, h1]; rfl
      · cases h)
    have r1 := H3.out.put0 (.string u.nm) (.slice q u.args.length d)
    have r2 := H3.out.put1 (.string u.nm) (.slice q u.args.length d)
    have S5 := Lib.hid (S3.out.frame (w' := (W3.setCell ⟨w.heap.size, 0, none⟩ (.string u.nm)).setCell ⟨w.heap.size, 1, none⟩ (.slice q u.args.length d)) (fun b o hb => by
      rw [cell_far (by show b ≠ w.heap.size; omega), cell_far (by show b ≠ w.heap.size; omega)]))
    have D5 := Lib.hid ((B3.out.setCell (p := ⟨w.heap.size, 0, none⟩) (by simp) (.string u.nm)).setCell (p := ⟨w.heap.size, 1, none⟩) (by simp) (.slice q u.args.length d))
    clear CL S3 B3 LF FF
    go_wp2_with fail
    refine bodyPost_ret (v := .agg #[.string u.nm, .slice q u.args.length d]) (by simp [results, Tryz.results111, go_sem, r1, r2]) rfl ?_
    rw [RF.out]
    exact ⟨q, d, rfl, S5.out.weaken (fun b hb => ⟨by omega, by simpa [World.setCell] using hb.2⟩), NU.out, D5.out⟩
end UniE
end Go.Proofs.YtdkpflojdnkbnaaGreatDoor
