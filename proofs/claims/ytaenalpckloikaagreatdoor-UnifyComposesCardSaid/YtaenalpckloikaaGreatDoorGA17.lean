/- Texts laid together: UnmG; UniF; UnmH; UnmI. Their own heads stand before each. -/
import Derived.Test.YtaenalpckloikaaGreatDoorGA15
import Derived.Test.YtaenalpckloikaaGreatDoorGA16
import Derived.Test.YtaenalpckloikaaGreatDoorGA6
import Derived.OwnWalk
import Derived.Laws.OwnMore
import Derived.Deep.DeepCutAuto
import Derived.Deep.RegionWith
/- The library's sort of strings, and the variables of a rule without a body. Condition: at most a million parts. -/
namespace Go.Proofs.YtaenalpckloikaaGreatDoor
open Go Go.RowKit Go.Maps Go.WideMaps
namespace UnmG
open LexM TermM TermI Kit TermN TermU TermL TermE TermF UniK UniM UniD UnmE UnmF
theorem sort_nil : sortB [] = [] := by simp [sortB, lists, bytesOf]
theorem sortc : SortC := by
  intro base w v vs hown hl
  have h0 := hown
  rcases hown.2 with ⟨rfl, hz⟩ | ⟨g, cap, cur, rfl, e2, e3, e4, e5, e6, e7⟩
  · have hv : vs = [] := List.eq_nil_of_length_eq_zero hz
    subst hv
    refine (Tryz.slices_Sort_string_none none 0 w).mono ?_
    rintro e w' ⟨rfl, rfl⟩
    exact ⟨rfl, by rw [sort_nil]; exact h0, Below.refl _ _⟩
  · have hg := (h0.lt g rfl).2
    have hll : (lists vs).length = vs.length := by simp [lists]
    have hH : Go.Sort.Holds encStr w g 0 (lists vs).toArray := by
      intro j hj
      have hj' : j < vs.length := by simpa [lists] using hj
      refine ⟨?_, h0.frozenAt _⟩
      rw [Nat.zero_add, h0.cellAt j (by omega)]
      have e9 : (lists vs).toArray[j]! = vs[j].data.toList := by
        rw [getElem!_pos _ j (by simpa using hj)]
        simp [lists]
      rw [e9]
      simp [strs, encStr, hj']
    have C := Tryz.slices_Sort_string g 0 cap (lists vs) w hH hg (by omega)
    rw [hll] at C
    refine C.mono ?_
    rintro e w' ⟨rfl, n, os, rfl⟩
    have hsl : ((lists vs).mergeSort fun x y => decide (x ≤ y)).length = vs.length := by simp [lists]
    have P := put_row (ls := (lists vs).mergeSort fun x y => decide (x ≤ y)) (by rw [hsl]; exact h0) n os
    rw [hsl] at P
    refine ⟨rfl, ?_, P.2⟩
    rw [show strs (sortB vs) = ((lists vs).mergeSort fun x y => decide (x ≤ y)).map encStr from strs_bytes _]
    exact P.1
set_option maxRecDepth 100000 in
set_option maxHeartbeats 800000 in
theorem rvars_nil (h : Tm) (B : Nat) (w : World) (hv : Value) (hB : B ≤ w.heap.size) (hs : SlIn (· < B) w h.args hv) (hn : h.nm.size ≤ maxLen) (hz : sizeT h ≤ 900000) :
    Calls Tryz.prog 62 #[.agg #[.string h.nm, hv, .slice none 0 0]] w (Vrs (varsOf (leavesL [h])) w) := by
  obtain ⟨p, c, rfl⟩ := hs.form
  obtain ⟨W1, hW1⟩ : ∃ W1, W1 = w.alloc (.cells #[.string h.nm, .slice p h.args.length c, .slice none 0 0] 34) := ⟨_, rfl⟩
  have R1 : Hid (Has W1 w.heap.size #[.string h.nm, .slice p h.args.length c, .slice none 0 0]) := Lib.hid (by rw [hW1]; exact Has.new _ _ _)
  have K1 : Hid (Below w.heap.size w W1) := Lib.hid (by rw [hW1]; exact below_alloc _ _)
  obtain ⟨W2, hW2⟩ : ∃ W2, W2 = W1.alloc (.cells #[.string h.nm, .slice p h.args.length c] 27) := ⟨_, rfl⟩
  have R2 : Hid (Has W2 W1.heap.size #[.string h.nm, .slice p h.args.length c]) := Lib.hid (by rw [hW2]; exact Has.new _ _ _)
  have K2 : Hid (Below w.heap.size w W2) := Lib.hid (by rw [hW2]; exact next0 K1.out (below_alloc _ _))
  have R12 : Hid (Has W2 w.heap.size #[.string h.nm, .slice p h.args.length c, .slice none 0 0]) := Lib.hid (by rw [hW2]; exact R1.out.alloc _)
  have hs1 : w.heap.size + 1 = W1.heap.size := by rw [hW1]; simp
  have hs2 : W1.heap.size + 1 = W2.heap.size := by rw [hW2]; simp
  have SL := TermH.slin_of (B := B) (B' := W1.heap.size + 1) (L := [(h, .slice p h.args.length c)]) (by omega) (by omega) (Nat.le_refl _) (by unfold maxLen; simp) R2.out (fun x hx => by
    obtain rfl := List.mem_singleton.1 hx
    exact ⟨hs.deep K2.out hB, hn⟩)
  have CV := Lib.hid (fun w' (k : Below W2.heap.size W2 w') => vars_any [h] (W1.heap.size + 1) w' (.slice (some ⟨W1.heap.size, 0, none⟩) 1 1) (by have := k.size; omega) (SL.deep k (by omega)) (by simp only [sizeL]; omega))
  clear hs hn hz R2 SL
  generalize varsOf (leavesL [h]) = vz at *
  unfold Vrs at CV ⊢
  generalize h.nm = hnm at *
  generalize h.args.length = hl at *
  obtain ⟨y1, y2, y3⟩ := UniA.three R1.out
  go_enter Tryz.func62, Tryz.ntmps62
  go_upto_region 1 with fail
  rw [← hW1]
  clear hW1
  go_upto_region 2 with fail
  rw [← hW2]
  clear hW2 y1 y2 y3
  obtain ⟨y1, y2, y3⟩ := UniA.three R12.out
  go_wp2_with fail
  go_loopw [3, 12] (fun v i wr => ∃ k : Nat, k ≤ 0 ∧ i = .int .i64 k ∧ v = .slice (some ⟨W1.heap.size, 0, none⟩) 1 1 ∧ Hid (Below W2.heap.size W2 wr)) (fun _ i _ => 0 - (intOf i).toNat)
  case atStart => exact ⟨0, Nat.le_refl _, rfl, rfl, Lib.hid (Below.refl _ _)⟩
  case round =>
    obtain ⟨k, hk, rfl, rfl, hK⟩ := hrel
    have hk0 : ¬ ((k : Int) < 0) := by omega
    go_wp2_with fail
    refine (CV.out _ hK.out).mono ?_
    rintro e w3 ⟨v', base, rfl, h1, h2, h3⟩
    have H1 := Lib.hid h1
    have K3 := Lib.hid (next0 (next0 K2.out hK.out) h3)
    have hsr := hK.out.size
    clear h1 h3
    go_wp2_with fail
    go_ret
    exact ⟨_, base, rfl, H1.out, by omega, K3.out⟩
end UnmG
end Go.Proofs.YtaenalpckloikaaGreatDoor
/- The code's Apply. Conditions: the substitution's names ascend; terms of at most a million parts. Made by genunid.py. -/
namespace Go.Proofs.YtaenalpckloikaaGreatDoor
open Go Go.RowKit
namespace UniF
open LexM TermM TermI Kit TermN TermU UniK UniM UniA UniC UniD UniE
set_option maxRecDepth 100000 in
set_option maxHeartbeats 6400000 in
theorem replace_any (g : Nat) (φ : ByteArray → Tm) (t : Tm) : ∀ (B : Nat) (w : World) (sv : Value), B ≤ w.heap.size → SlIn (· < B) w t.args sv → t.nm.size ≤ maxLen → sizeT t ≤ 1000000 →
    (∀ (w' : World) (n : ByteArray), Below w.heap.size w w' → n.size ≤ maxLen → Calls Tryz.prog 79 #[.string n, .pointer (some ⟨g, 0, none⟩)] w' (RepR (φ n) w')) →
    Calls Tryz.prog 45 #[.agg #[.string t.nm, sv], .func (.func 79) #[] #[.pointer (some ⟨g, 0, none⟩)]] w (RepR (repT φ t) w) := by
  obtain ⟨i0, hi, hz0, hz1, hz2⟩ := info_parts Tryz.info28
  induction t using Tm.ind with
  | h n l ih =>
    intro B w sv hB h hnm hz HF
    dsimp only [Tm.args, Tm.nm] at h hnm ⊢
    obtain ⟨p, c, rfl, hn, hc, hm, hR⟩ := h.row
    have hls := len_size l
    simp only [sizeT] at hz
    obtain ⟨W2, hW2⟩ : ∃ W2, W2 = (w.alloc (.cells #[.string n, .slice p l.length c] 27)).alloc (.cells #[.string ⟨#[]⟩, .slice none 0 0] 27) := ⟨_, rfl⟩
    have G2 : Gr w W2 := by rw [hW2]; exact (Gr.alloc _ _).more _
    have hz2w : w.heap.size + 2 ≤ W2.heap.size := by rw [hW2]; simp
    have H2 : Hid (Has W2 w.heap.size #[.string n, .slice p l.length c]) := Lib.hid (by rw [hW2]; exact (Has.new w _ _).alloc _)
    have E2 : Hid (Has W2 (w.heap.size + 1) #[.string ⟨#[]⟩, .slice none 0 0]) := Lib.hid (by rw [hW2]; exact Has.new1 w _ _ _)
    have hmf := @hmf0
    by_cases h0 : l = []
    · subst h0
      have e1 : repT φ (.mk n []) = φ n := by simp [repT]
      rw [e1]
      have CF := Lib.hid (HF W2 n G2.1 hnm)
      clear ih hR h hz HF hls
      generalize φ n = u at *
      unfold RepR at CF ⊢
      simp only [List.length_nil] at hW2 H2
      go_enter Tryz.func45, Tryz.ntmps45
      go_upto_region 1 with fail
      rw [← hW2]
      clear hW2
      obtain ⟨x1, x2, x3, x4, x5⟩ := H2.out.two
      go_wp2_with fail
      refine CF.out.mono ?_
      rintro e w3 ⟨q, d, rfl, hS, hnu, hb⟩
      have B3 := Lib.hid (next0 G2.1 hb)
      obtain ⟨y1, y2, y3, y4, y5⟩ := (E2.out.step0 hb).two
      have r1 := (E2.out.step0 hb).put0 (.string u.nm) (.slice q u.args.length d)
      have r2 := (E2.out.step0 hb).put1 (.string u.nm) (.slice q u.args.length d)
      have S4 := Lib.hid (((hS.weaken (ok' := fun b => W2.heap.size ≤ b ∧ b < w3.heap.size) (fun b hb => hb)).frame (w' := (w3.setCell ⟨w.heap.size + 1, 0, none⟩ (.string u.nm)).setCell ⟨w.heap.size + 1, 1, none⟩ (.slice q u.args.length d)) (fun b o hb => by
        rw [cell_far (by show b ≠ w.heap.size + 1; omega), cell_far (by show b ≠ w.heap.size + 1; omega)])))
      have D4 := Lib.hid ((B3.out.setCell (p := ⟨w.heap.size + 1, 0, none⟩) (by simp) (.string u.nm)).setCell (p := ⟨w.heap.size + 1, 1, none⟩) (by simp) (.slice q u.args.length d))
      have HNU := Lib.hid hnu
      clear hS hb B3 hnu CF x1 x2 x3 x4
      go_wp2_with fail
      refine bodyPost_ret (v := .agg #[.string u.nm, .slice q u.args.length d]) (by simp [results, Tryz.results45, go_sem, y1, y2]) rfl ?_
      exact ⟨q, d, rfl, S4.out.weaken (fun b hb => ⟨by omega, by simpa [World.setCell] using hb.2⟩), HNU.out, D4.out⟩
    · have hne : l.isEmpty = false := by cases l <;> simp_all
      have e1 : repT φ (.mk n l) = .mk n (l.map (repT φ)) := by rw [repT, if_neg (by simp [hne]), repL_map]
      rw [e1]
      have hlp : 0 < l.length := List.length_pos_iff.2 h0
      obtain ⟨wm, M, O, G⟩ := run_make_full (P := Tryz.prog) W2 W2.heap.size 25 27 i0 _ 2 Tryz.underlying25 hi hz0 hz1 .i64 .i64 l.length (by rw [hz2]; omega) (by unfold maxLen; omega) (Nat.le_refl _)
      have O0 : Hid (wm.ownsRow W2.heap.size 27 2 (.slice (some ⟨W2.heap.size, 0, none⟩) l.length l.length) l.length (flatL [] ++ restL l.length)) := Lib.hid (by rw [made_rest] at O; exact O)
      have Bm := Lib.hid (next0 G2.1 ((Below.refl W2.heap.size W2).grown G (Nat.le_refl _) (fun k h => by cases h)))
      have Hm := Lib.hid (Has.grown H2.out G (by simp))
      have Em := Lib.hid (Has.grown E2.out G (by simp))
      have IH : Hid (∀ t ∈ l, ∀ (w' : World) (v : Value), Below w.heap.size w w' → SlIn (· < B) w' t.args v → t.nm.size ≤ maxLen → Calls Tryz.prog 45 #[.agg #[.string t.nm, v], .func (.func 79) #[] #[.pointer (some ⟨g, 0, none⟩)]] w' (RepR (repT φ t) w')) :=
        Lib.hid (fun t hk w' v hb h hn => ih t hk B w' v (Nat.le_trans hB hb.size) h hn (by have := size_mem hk; omega) (fun w2 n2 hb2 hn2 => HF w2 n2 (next0 hb hb2) hn2))
      have TK : Hid (∀ k t, l[k]? = some t → (l.take (k + 1)).map (repT φ) = (l.take k).map (repT φ) ++ [repT φ t]) := Lib.hid (fun k t h => by rw [take_get l k t h]; simp)
      have FT : Hid ((l.take l.length).map (repT φ) = l.map (repT φ)) := Lib.hid (by simp)
      have HB := Lib.hid hB
      have HR := Lib.hid hR
      have HNM := Lib.hid hnm
      have hlb : l.length ≤ 1000000 := by omega
      have ll : Hid ((l.map (repT φ)).length = l.length) := Lib.hid (by simp)
      unfold RepR
      dsimp only [Tm.nm, Tm.args]
      rw [ll.out]
      generalize hm' : l.length = m at *
      have HM := Lib.hid hm'
      clear ih hR h hm' hn hls hz HF O G ll
      have hm0 : ((m : Int) == 0) = false := by rw [beq_eq_false_iff_ne]; omega
      go_enter Tryz.func45, Tryz.ntmps45
      go_upto_region 1 with fail
      rw [← hW2]
      clear hW2
      obtain ⟨x1, x2, x3, x4, x5⟩ := H2.out.two
      go_upto_region 3 with fail
      go_upto_region 4 with fail
      clear x1 x2 x3 x4 x5
      obtain ⟨x1, x2, x3, x4, x5⟩ := Hm.out.two
      go_wp2_with fail
      go_loopw [23] (fun i wr => ∃ (k : Nat) (L : List (Tm × Value)), k ≤ m ∧ i = .int .i64 k ∧ Hid (L.map (·.1) = (l.take k).map (repT φ)) ∧ Hid (wr.ownsRow W2.heap.size 27 2 (.slice (some ⟨W2.heap.size, 0, none⟩) m m) m (flatL L ++ restL (m - k))) ∧ Hid (∀ x ∈ L, SlIn (fun b => W2.heap.size < b ∧ b < wr.heap.size) wr x.1.args x.2 ∧ x.1.nm.size ≤ maxLen) ∧ Hid (Has wr w.heap.size #[.string n, .slice p m c]) ∧ Hid (Has wr (w.heap.size + 1) #[.string ⟨#[]⟩, .slice none 0 0]) ∧ Hid (Below w.heap.size w wr) ∧ W2.heap.size < wr.heap.size) (fun i _ => m - (intOf i).toNat)
      case atStart => exact ⟨0, [], Nat.zero_le _, rfl, Lib.hid rfl, O0, Lib.hid (fun x hx => absurd hx (List.not_mem_nil)), Hm, Em, Bm, (World.ownsRow.lt O0.out _ rfl).2⟩
      case round =>
        obtain ⟨k, L, hk, rfl, hL, hO, hI, hH, hE, hD, hsz⟩ := hrel
        have hLl : L.length = k := by
          have := congrArg List.length hL.out
          rw [List.length_map, List.length_map, List.length_take, HM.out] at this
          omega
        by_cases hlt : k < m
        · obtain ⟨t, b, o, q, d, ht, rfl, hb, c1, c2, hs, hts⟩ := (Row.deep HR.out hD.out HB.out) k (by rw [HM.out]; exact hlt)
          have TT := Lib.hid (TK.out k t ht)
          obtain ⟨W4, hW4⟩ : ∃ W4, W4 = wr.alloc (.cells #[.string t.nm, .slice q t.args.length d] 27) := ⟨_, rfl⟩
          have D4 : Below w.heap.size w W4 := by rw [hW4]; exact next0 hD.out (below_alloc _ _)
          have k4 : Below wr.heap.size wr W4 := by rw [hW4]; exact below_alloc _ _
          have hz4 : W4.heap.size = wr.heap.size + 1 := by rw [hW4]; simp
          obtain ⟨y1, y2, _⟩ := (show Has W4 wr.heap.size #[.string t.nm, .slice q t.args.length d] by rw [hW4]; exact Has.new _ _ _).two
          have CI := Lib.hid (IH.out t (List.mem_of_getElem? ht) W4 _ D4 (hs.deep k4 (Nat.le_trans HB.out hD.out.size)) hts)
          have DD := Lib.hid D4
          have KK4 := Lib.hid k4
          clear hs hts ht D4 k4
          generalize t.nm = tn at *
          generalize t.args.length = ta at *
          generalize repT φ t = u at *
          unfold RepR at CI
          go_upto_region 7 with fail
          rw [← hW4]
          clear hW4 c1 c2
          go_wp2_with fail
          refine CI.out.mono ?_
          rintro e w5 ⟨q5, d5, rfl, hS5, hn5, hb5⟩
          have B5 := Lib.hid (next0 DD.out hb5)
          have K5 := Lib.hid (next0 KK4.out hb5)
          have O5 := Lib.hid (own_bel hO.out K5.out (fun g h => by cases h; exact hsz))
          have HO5 := Lib.hid (Has.step0 hH.out K5.out)
          have E5 := Lib.hid (Has.step0 hE.out K5.out)
          have I5 : Hid (∀ x ∈ L, SlIn (fun b => W2.heap.size < b ∧ b < w5.heap.size) w5 x.1.args x.2 ∧ x.1.nm.size ≤ maxLen) := Lib.hid (fun x hx => ⟨((hI.out x hx).1.frame fun b o hb => K5.out.cell (p := ⟨b, o, none⟩) hb.2).weaken fun b hb => ⟨hb.1, Nat.lt_of_lt_of_le hb.2 K5.out.size⟩, (hI.out x hx).2⟩)
          have S5 := Lib.hid hS5
          have N5 := Lib.hid hn5
          have hz5 : wr.heap.size + 1 ≤ w5.heap.size := by have := hb5.size; omega
          clear hS5 hn5 hb5 CI y1 y2 DD
          obtain ⟨r1, r2⟩ := rest_at L (m - k) (by omega)
          rw [hLl] at r1 r2
          have z1 := (O5.out.cellAt (k * 2) (by omega)).trans r1
          have z2 := (O5.out.cellAt (k * 2 + 1) (by omega)).trans r2
          have f1 := O5.out.frozenAt (k * 2)
          have f2 := O5.out.frozenAt (k * 2 + 1)
          have ST1 := Lib.hid (O5.out.stored (k * 2) (.string u.nm))
          have ST2 := Lib.hid (ST1.out.1.stored (k * 2 + 1) (.slice q5 u.args.length d5))
          have hgb : W2.heap.size < w5.heap.size := by omega
          have NX := Lib.hid (rest_set L u (.slice q5 u.args.length d5) (m - k) (by omega))
          rw [hLl] at NX
          clear r1 r2
          have FAR : Hid (∀ b o, b ≠ W2.heap.size → ((w5.setCell ⟨W2.heap.size, k * 2, none⟩ (.string u.nm)).setCell ⟨W2.heap.size, k * 2 + 1, none⟩ (.slice q5 u.args.length d5)).cell? ⟨b, o, none⟩ = w5.cell? ⟨b, o, none⟩) := Lib.hid (fun b o hb => by rw [cell_far hb, cell_far hb])
          have fin : Hid (∀ w6, w6 = (w5.setCell ⟨W2.heap.size, k * 2, none⟩ (.string u.nm)).setCell ⟨W2.heap.size, k * 2 + 1, none⟩ (.slice q5 u.args.length d5) → 
              Hid ((L ++ [(u, Value.slice q5 u.args.length d5)]).map (·.1) = (l.take (k + 1)).map (repT φ)) ∧ Hid (w6.ownsRow W2.heap.size 27 2 (.slice (some ⟨W2.heap.size, 0, none⟩) m m) m (flatL (L ++ [(u, Value.slice q5 u.args.length d5)]) ++ restL (m - (k + 1)))) ∧ Hid (∀ x ∈ L ++ [(u, Value.slice q5 u.args.length d5)], SlIn (fun b => W2.heap.size < b ∧ b < w6.heap.size) w6 x.1.args x.2 ∧ x.1.nm.size ≤ maxLen) ∧ Hid (Has w6 w.heap.size #[.string n, .slice (some ⟨b, o, none⟩) m c]) ∧ Hid (Has w6 (w.heap.size + 1) #[.string ⟨#[]⟩, .slice none 0 0]) ∧ Hid (Below w.heap.size w w6) ∧ W2.heap.size < w6.heap.size) := Lib.hid (by
            rintro w6 rfl
            refine ⟨Lib.hid (by rw [List.map_append, hL.out, TT.out]; rfl), Lib.hid (by have := ST2.out.1; rw [NX.out] at this; rw [show m - (k + 1) = m - k - 1 by omega]; exact this), Lib.hid (fun x hx => ?_), Lib.hid ((HO5.out.far (by show w.heap.size ≠ W2.heap.size; omega) _).far (by show w.heap.size ≠ W2.heap.size; omega) _), Lib.hid ((E5.out.far (by show w.heap.size + 1 ≠ W2.heap.size; omega) _).far (by show w.heap.size + 1 ≠ W2.heap.size; omega) _), Lib.hid ((B5.out.setCell (by show w.heap.size ≤ W2.heap.size; omega) _).setCell (by show w.heap.size ≤ W2.heap.size; omega) _), by simpa [World.setCell] using hgb⟩
            rcases List.mem_append.1 hx with hx | hx
            · exact ⟨((I5.out x hx).1.frame fun b o hb => FAR.out b o (by omega)).weaken fun b hb => ⟨hb.1, by simpa [World.setCell] using hb.2⟩, (I5.out x hx).2⟩
            · obtain rfl := List.mem_singleton.1 hx
              exact ⟨((S5.out.weaken (ok' := fun b => W2.heap.size < b ∧ b < w5.heap.size) fun b hb => ⟨by omega, hb.2⟩).frame fun b o hb => FAR.out b o (by omega)).weaken fun b hb => ⟨hb.1, by simpa [World.setCell] using hb.2⟩, N5.out⟩)
          clear ST1 ST2 NX FAR I5 S5 N5 HO5 E5 hI hO hH hE hL TT K5 KK4
          go_wp2_with fail
          go_roundw
          case rel => exact ⟨k + 1, _, by omega, by go_num, fin.out _ rfl⟩
          case measure => simp [intOf]; omega
        · obtain rfl : k = m := by omega
          have HL : Hid (L.map (·.1) = l.map (repT φ)) := Lib.hid (by rw [hL.out, FT.out])
          have OW := hO.out
          rw [Nat.sub_self, show restL 0 = [] from rfl, List.append_nil] at OW
          obtain ⟨x1, x2, _, _, x5⟩ := hH.out.two
          obtain ⟨y1, y2, y3, y4, y5⟩ := hE.out.two
          have r1 := hE.out.put0 (.string n) (.slice (some ⟨W2.heap.size, 0, none⟩) k k)
          have r2 := hE.out.put1 (.string n) (.slice (some ⟨W2.heap.size, 0, none⟩) k k)
          have S4 : Hid (SlIn (fun b => w.heap.size ≤ b ∧ b < ((wr.setCell ⟨w.heap.size + 1, 0, none⟩ (.string n)).setCell ⟨w.heap.size + 1, 1, none⟩ (.slice (some ⟨W2.heap.size, 0, none⟩) k k)).heap.size) ((wr.setCell ⟨w.heap.size + 1, 0, none⟩ (.string n)).setCell ⟨w.heap.size + 1, 1, none⟩ (.slice (some ⟨W2.heap.size, 0, none⟩) k k)) (l.map (repT φ)) (.slice (some ⟨W2.heap.size, 0, none⟩) k k)) := Lib.hid (by
            rw [← HL.out]
            have := slin_own hLl OW hI.out hsz
            exact (this.frame fun b o hb => by rw [cell_far (by show b ≠ w.heap.size + 1; omega), cell_far (by show b ≠ w.heap.size + 1; omega)]).weaken fun b hb => ⟨by omega, by simpa [World.setCell] using hb.2⟩)
          have D4 := Lib.hid ((hD.out.setCell (p := ⟨w.heap.size + 1, 0, none⟩) (by simp) (.string n)).setCell (p := ⟨w.heap.size + 1, 1, none⟩) (by simp) (.slice (some ⟨W2.heap.size, 0, none⟩) k k))
          clear OW hO hI hL HL hD hLl
          go_wp2_with fail
          refine bodyPost_ret (v := .agg #[.string n, .slice (some ⟨W2.heap.size, 0, none⟩) k k]) (by simp [results, Tryz.results45, go_sem, y1, y2]) rfl ?_
          exact ⟨_, _, rfl, S4.out, HNM.out, D4.out⟩
def RpR (sv : Value) (w : World) (e : Ending) (w' : World) : Prop := ∃ g : Nat, e = .returned (.func (.func 79) #[] #[.pointer (some ⟨g, 0, none⟩)]) ∧ Has w' g #[sv] ∧ Below w.heap.size w w'
theorem replacer_mk (sv : Value) (p : Option Addr) (n c : Nat) (hv : sv = .slice p n c) (w : World) : Calls Tryz.prog 46 #[sv] w (RpR sv w) := by
  subst hv
  have hmf := @hmf0
  unfold RpR
  go_enter Tryz.func46, Tryz.ntmps46
  go_wp2_with fail
  go_ret
  exact ⟨_, rfl, Has.new w _ _, below_alloc w _⟩
set_option maxRecDepth 100000 in
set_option maxHeartbeats 6400000 in
theorem apply_any (s : List Bd) (hS : Srt s) (hsz : Sz s) (t : Tm) (B : Nat) (w : World) (sv tv : Value) (hB : B ≤ w.heap.size) (hs : SIn (· < B) w s sv) (h : SlIn (· < B) w t.args tv) (hn : t.nm.size ≤ maxLen) (hz : sizeT t ≤ 1000000) :
    Calls Tryz.prog 20 #[sv, .agg #[.string t.nm, tv]] w (RepR (appT s t) w) := by
  obtain ⟨p, c, rfl⟩ := h.form
  obtain ⟨ps, cs, hsv⟩ := hs.form
  have CB := Lib.hid (fun (w' : World) (g : Nat) (k : Below w.heap.size w w') (hg : Has w' g #[sv]) => by
    have := replace_any g (leafS s) t B w' (.slice p t.args.length c) (Nat.le_trans hB k.size) (h.deep k hB) hn hz (fun w'' n k2 hn2 => replacer_any s n hn2 hS hsz B g w'' sv (Nat.le_trans hB (next0 k k2).size) (hs.deep (next0 k k2) hB) (hg.step0 k2))
    rw [rep_app] at this
    exact this)
  have CA := Lib.hid (fun w' => replacer_mk sv ps s.length cs hsv w')
  obtain ⟨W2, hW2⟩ : ∃ W2, W2 = (w.alloc (.cells #[.string t.nm, .slice p t.args.length c] 27)).alloc (.cells #[.string ⟨#[]⟩, .slice none 0 0] 27) := ⟨_, rfl⟩
  have G2 : Gr w W2 := by rw [hW2]; exact (Gr.alloc _ _).more _
  have hz2w : w.heap.size + 2 ≤ W2.heap.size := by rw [hW2]; simp
  have H2 : Hid (Has W2 w.heap.size #[.string t.nm, .slice p t.args.length c]) := Lib.hid (by rw [hW2]; exact (Has.new w _ _).alloc _)
  have E2 : Hid (Has W2 (w.heap.size + 1) #[.string ⟨#[]⟩, .slice none 0 0]) := Lib.hid (by rw [hW2]; exact Has.new1 w _ _ _)
  have GG := Lib.hid G2
  have CB := Lib.hid (fun (w' : World) (g : Nat) (k : Below W2.heap.size W2 w') (hg : Has w' g #[sv]) => CB.out w' g (next0 G2.1 k) hg)
  have HB2 := Lib.hid (fun (w' : World) (k : Below W2.heap.size W2 w') => (H2.out.step0 k).two)
  have HE2 := Lib.hid (fun (w' : World) (k : Below W2.heap.size W2 w') => E2.out.step0 k)
  clear h hs hB hz hn hS hsz G2 hsv
  generalize appT s t = u at *
  generalize t.nm = tn at *
  generalize t.args.length = ta at *
  unfold RpR at CA
  unfold RepR at CB ⊢
  obtain ⟨y1, y2, y3, y4, y5⟩ := HB2.out W2 (Below.refl _ _)
  go_enter Tryz.func20, Tryz.ntmps20
  go_upto_region 1 with fail
  rw [← hW2]
  clear hW2
  go_region_with (first
    | (go_at_call 46; (with_reducible refine (CA.out _).mono ?_); rintro e w3 ⟨g, rfl, hH, hb⟩; have D3 : Hid (Below W2.heap.size W2 w3) := Lib.hid (by first | exact hb | exact next0 (Below.refl _ _).drew hb | exact next0 (below_drewN (Below.refl _ _) _) hb); have HG := Lib.hid hH; clear hb hH; obtain ⟨z1, z2, z3, z4, z5⟩ := HB2.out _ D3.out)
    | (go_at_call 45; (with_reducible refine (CB.out _ _ (by first | exact D3.out | exact D3.out.drew | exact below_drewN D3.out _) (by exact HG.out)).mono ?_); rintro e w4 ⟨q, d, rfl, hS, hnu, hb⟩; have D4 : Hid (Below W2.heap.size W2 w4) := Lib.hid (by first | exact next0 D3.out hb | exact next0 D3.out.drew hb | exact next0 (below_drewN D3.out _) hb); have S4 := Lib.hid (hS.weaken (ok' := fun b => W2.heap.size ≤ b ∧ b < w4.heap.size) (fun b hb2 => ⟨Nat.le_trans D3.out.size hb2.1, hb2.2⟩)); have NU := Lib.hid hnu; have E4 := Lib.hid (HE2.out _ D4.out); clear hS hnu hb; obtain ⟨u1, u2, u3, u4, u5⟩ := E4.out.two))
  all_goals
    have r1 := E4.out.put0 (.string u.nm) (.slice q u.args.length d)
    have r2 := E4.out.put1 (.string u.nm) (.slice q u.args.length d)
    have S5 := Lib.hid (S4.out.frame (w' := (w4.setCell ⟨w.heap.size + 1, 0, none⟩ (.string u.nm)).setCell ⟨w.heap.size + 1, 1, none⟩ (.slice q u.args.length d)) (fun b o hb => by
      rw [cell_far (by show b ≠ w.heap.size + 1; omega), cell_far (by show b ≠ w.heap.size + 1; omega)]))
    have D5 := Lib.hid (((next0 GG.out.1 D4.out).setCell (p := ⟨w.heap.size + 1, 0, none⟩) (by simp) (.string u.nm)).setCell (p := ⟨w.heap.size + 1, 1, none⟩) (by simp) (.slice q u.args.length d))
    go_wp2_with fail
    refine bodyPost_ret (v := .agg #[.string u.nm, .slice q u.args.length d]) (by simp [results, Tryz.results20, go_sem, r1, r2]) rfl ?_
    exact ⟨q, d, rfl, S5.out.weaken (fun b hb => ⟨by omega, by simpa [World.setCell] using hb.2⟩), NU.out, D5.out⟩
end UniF
end Go.Proofs.YtaenalpckloikaaGreatDoor
/- Renaming of the leaves of a rule without a body: replace with Rename's closure. Condition: at most a million parts. Made by genunmh.py. -/
namespace Go.Proofs.YtaenalpckloikaaGreatDoor
open Go Go.RowKit Go.Maps Go.WideMaps
namespace UnmH
open LexM TermM TermI Kit TermN TermU UniK UniM UniA UniC UniD UniE UnmA UnmD
set_option maxRecDepth 100000 in
set_option maxHeartbeats 6400000 in
theorem replace_any (g : Nat) (φ : ByteArray → Tm) (t : Tm) : ∀ (B : Nat) (w : World) (sv : Value), B ≤ w.heap.size → SlIn (· < B) w t.args sv → t.nm.size ≤ maxLen → sizeT t ≤ 1000000 →
    (∀ (w' : World) (n : ByteArray), Below w.heap.size w w' → n.size ≤ maxLen → Calls Tryz.prog 64 #[.string n, .pointer (some ⟨g, 0, none⟩)] w' (RepR (φ n) w')) →
    Calls Tryz.prog 45 #[.agg #[.string t.nm, sv], .func (.func 64) #[] #[.pointer (some ⟨g, 0, none⟩)]] w (RepR (repT φ t) w) := by
  obtain ⟨i0, hi, hz0, hz1, hz2⟩ := info_parts Tryz.info28
  induction t using Tm.ind with
  | h n l ih =>
    intro B w sv hB h hnm hz HF
    dsimp only [Tm.args, Tm.nm] at h hnm ⊢
    obtain ⟨p, c, rfl, hn, hc, hm, hR⟩ := h.row
    have hls := len_size l
    simp only [sizeT] at hz
    obtain ⟨W2, hW2⟩ : ∃ W2, W2 = (w.alloc (.cells #[.string n, .slice p l.length c] 27)).alloc (.cells #[.string ⟨#[]⟩, .slice none 0 0] 27) := ⟨_, rfl⟩
    have G2 : Gr w W2 := by rw [hW2]; exact (Gr.alloc _ _).more _
    have hz2w : w.heap.size + 2 ≤ W2.heap.size := by rw [hW2]; simp
    have H2 : Hid (Has W2 w.heap.size #[.string n, .slice p l.length c]) := Lib.hid (by rw [hW2]; exact (Has.new w _ _).alloc _)
    have E2 : Hid (Has W2 (w.heap.size + 1) #[.string ⟨#[]⟩, .slice none 0 0]) := Lib.hid (by rw [hW2]; exact Has.new1 w _ _ _)
    have hmf := @hmf0
    by_cases h0 : l = []
    · subst h0
      have e1 : repT φ (.mk n []) = φ n := by simp [repT]
      rw [e1]
      have CF := Lib.hid (HF W2 n G2.1 hnm)
      clear ih hR h hz HF hls
      generalize φ n = u at *
      unfold RepR at CF ⊢
      simp only [List.length_nil] at hW2 H2
      go_enter Tryz.func45, Tryz.ntmps45
      go_upto_region 1 with fail
      rw [← hW2]
      clear hW2
      obtain ⟨x1, x2, x3, x4, x5⟩ := H2.out.two
      go_wp2_with fail
      refine CF.out.mono ?_
      rintro e w3 ⟨q, d, rfl, hS, hnu, hb⟩
      have B3 := Lib.hid (next0 G2.1 hb)
      obtain ⟨y1, y2, y3, y4, y5⟩ := (E2.out.step0 hb).two
      have r1 := (E2.out.step0 hb).put0 (.string u.nm) (.slice q u.args.length d)
      have r2 := (E2.out.step0 hb).put1 (.string u.nm) (.slice q u.args.length d)
      have S4 := Lib.hid (((hS.weaken (ok' := fun b => W2.heap.size ≤ b ∧ b < w3.heap.size) (fun b hb => hb)).frame (w' := (w3.setCell ⟨w.heap.size + 1, 0, none⟩ (.string u.nm)).setCell ⟨w.heap.size + 1, 1, none⟩ (.slice q u.args.length d)) (fun b o hb => by
        rw [cell_far (by show b ≠ w.heap.size + 1; omega), cell_far (by show b ≠ w.heap.size + 1; omega)])))
      have D4 := Lib.hid ((B3.out.setCell (p := ⟨w.heap.size + 1, 0, none⟩) (by simp) (.string u.nm)).setCell (p := ⟨w.heap.size + 1, 1, none⟩) (by simp) (.slice q u.args.length d))
      have HNU := Lib.hid hnu
      clear hS hb B3 hnu CF x1 x2 x3 x4
      go_wp2_with fail
      refine bodyPost_ret (v := .agg #[.string u.nm, .slice q u.args.length d]) (by simp [results, Tryz.results45, go_sem, y1, y2]) rfl ?_
      exact ⟨q, d, rfl, S4.out.weaken (fun b hb => ⟨by omega, by simpa [World.setCell] using hb.2⟩), HNU.out, D4.out⟩
    · have hne : l.isEmpty = false := by cases l <;> simp_all
      have e1 : repT φ (.mk n l) = .mk n (l.map (repT φ)) := by rw [repT, if_neg (by simp [hne]), repL_map]
      rw [e1]
      have hlp : 0 < l.length := List.length_pos_iff.2 h0
      obtain ⟨wm, M, O, G⟩ := run_make_full (P := Tryz.prog) W2 W2.heap.size 25 27 i0 _ 2 Tryz.underlying25 hi hz0 hz1 .i64 .i64 l.length (by rw [hz2]; omega) (by unfold maxLen; omega) (Nat.le_refl _)
      have O0 : Hid (wm.ownsRow W2.heap.size 27 2 (.slice (some ⟨W2.heap.size, 0, none⟩) l.length l.length) l.length (flatL [] ++ restL l.length)) := Lib.hid (by rw [made_rest] at O; exact O)
      have Bm := Lib.hid (next0 G2.1 ((Below.refl W2.heap.size W2).grown G (Nat.le_refl _) (fun k h => by cases h)))
      have Hm := Lib.hid (Has.grown H2.out G (by simp))
      have Em := Lib.hid (Has.grown E2.out G (by simp))
      have IH : Hid (∀ t ∈ l, ∀ (w' : World) (v : Value), Below w.heap.size w w' → SlIn (· < B) w' t.args v → t.nm.size ≤ maxLen → Calls Tryz.prog 45 #[.agg #[.string t.nm, v], .func (.func 64) #[] #[.pointer (some ⟨g, 0, none⟩)]] w' (RepR (repT φ t) w')) :=
        Lib.hid (fun t hk w' v hb h hn => ih t hk B w' v (Nat.le_trans hB hb.size) h hn (by have := size_mem hk; omega) (fun w2 n2 hb2 hn2 => HF w2 n2 (next0 hb hb2) hn2))
      have TK : Hid (∀ k t, l[k]? = some t → (l.take (k + 1)).map (repT φ) = (l.take k).map (repT φ) ++ [repT φ t]) := Lib.hid (fun k t h => by rw [take_get l k t h]; simp)
      have FT : Hid ((l.take l.length).map (repT φ) = l.map (repT φ)) := Lib.hid (by simp)
      have HB := Lib.hid hB
      have HR := Lib.hid hR
      have HNM := Lib.hid hnm
      have hlb : l.length ≤ 1000000 := by omega
      have ll : Hid ((l.map (repT φ)).length = l.length) := Lib.hid (by simp)
      unfold RepR
      dsimp only [Tm.nm, Tm.args]
      rw [ll.out]
      generalize hm' : l.length = m at *
      have HM := Lib.hid hm'
      clear ih hR h hm' hn hls hz HF O G ll
      have hm0 : ((m : Int) == 0) = false := by rw [beq_eq_false_iff_ne]; omega
      go_enter Tryz.func45, Tryz.ntmps45
      go_upto_region 1 with fail
      rw [← hW2]
      clear hW2
      obtain ⟨x1, x2, x3, x4, x5⟩ := H2.out.two
      go_upto_region 3 with fail
      go_upto_region 4 with fail
      clear x1 x2 x3 x4 x5
      obtain ⟨x1, x2, x3, x4, x5⟩ := Hm.out.two
      go_wp2_with fail
      go_loopw [23] (fun i wr => ∃ (k : Nat) (L : List (Tm × Value)), k ≤ m ∧ i = .int .i64 k ∧ Hid (L.map (·.1) = (l.take k).map (repT φ)) ∧ Hid (wr.ownsRow W2.heap.size 27 2 (.slice (some ⟨W2.heap.size, 0, none⟩) m m) m (flatL L ++ restL (m - k))) ∧ Hid (∀ x ∈ L, SlIn (fun b => W2.heap.size < b ∧ b < wr.heap.size) wr x.1.args x.2 ∧ x.1.nm.size ≤ maxLen) ∧ Hid (Has wr w.heap.size #[.string n, .slice p m c]) ∧ Hid (Has wr (w.heap.size + 1) #[.string ⟨#[]⟩, .slice none 0 0]) ∧ Hid (Below w.heap.size w wr) ∧ W2.heap.size < wr.heap.size) (fun i _ => m - (intOf i).toNat)
      case atStart => exact ⟨0, [], Nat.zero_le _, rfl, Lib.hid rfl, O0, Lib.hid (fun x hx => absurd hx (List.not_mem_nil)), Hm, Em, Bm, (World.ownsRow.lt O0.out _ rfl).2⟩
      case round =>
        obtain ⟨k, L, hk, rfl, hL, hO, hI, hH, hE, hD, hsz⟩ := hrel
        have hLl : L.length = k := by
          have := congrArg List.length hL.out
          rw [List.length_map, List.length_map, List.length_take, HM.out] at this
          omega
        by_cases hlt : k < m
        · obtain ⟨t, b, o, q, d, ht, rfl, hb, c1, c2, hs, hts⟩ := (Row.deep HR.out hD.out HB.out) k (by rw [HM.out]; exact hlt)
          have TT := Lib.hid (TK.out k t ht)
          obtain ⟨W4, hW4⟩ : ∃ W4, W4 = wr.alloc (.cells #[.string t.nm, .slice q t.args.length d] 27) := ⟨_, rfl⟩
          have D4 : Below w.heap.size w W4 := by rw [hW4]; exact next0 hD.out (below_alloc _ _)
          have k4 : Below wr.heap.size wr W4 := by rw [hW4]; exact below_alloc _ _
          have hz4 : W4.heap.size = wr.heap.size + 1 := by rw [hW4]; simp
          obtain ⟨y1, y2, _⟩ := (show Has W4 wr.heap.size #[.string t.nm, .slice q t.args.length d] by rw [hW4]; exact Has.new _ _ _).two
          have CI := Lib.hid (IH.out t (List.mem_of_getElem? ht) W4 _ D4 (hs.deep k4 (Nat.le_trans HB.out hD.out.size)) hts)
          have DD := Lib.hid D4
          have KK4 := Lib.hid k4
          clear hs hts ht D4 k4
          generalize t.nm = tn at *
          generalize t.args.length = ta at *
          generalize repT φ t = u at *
          unfold RepR at CI
          go_upto_region 7 with fail
          rw [← hW4]
          clear hW4 c1 c2
          go_wp2_with fail
          refine CI.out.mono ?_
          rintro e w5 ⟨q5, d5, rfl, hS5, hn5, hb5⟩
          have B5 := Lib.hid (next0 DD.out hb5)
          have K5 := Lib.hid (next0 KK4.out hb5)
          have O5 := Lib.hid (own_bel hO.out K5.out (fun g h => by cases h; exact hsz))
          have HO5 := Lib.hid (Has.step0 hH.out K5.out)
          have E5 := Lib.hid (Has.step0 hE.out K5.out)
          have I5 : Hid (∀ x ∈ L, SlIn (fun b => W2.heap.size < b ∧ b < w5.heap.size) w5 x.1.args x.2 ∧ x.1.nm.size ≤ maxLen) := Lib.hid (fun x hx => ⟨((hI.out x hx).1.frame fun b o hb => K5.out.cell (p := ⟨b, o, none⟩) hb.2).weaken fun b hb => ⟨hb.1, Nat.lt_of_lt_of_le hb.2 K5.out.size⟩, (hI.out x hx).2⟩)
          have S5 := Lib.hid hS5
          have N5 := Lib.hid hn5
          have hz5 : wr.heap.size + 1 ≤ w5.heap.size := by have := hb5.size; omega
          clear hS5 hn5 hb5 CI y1 y2 DD
          obtain ⟨r1, r2⟩ := rest_at L (m - k) (by omega)
          rw [hLl] at r1 r2
          have z1 := (O5.out.cellAt (k * 2) (by omega)).trans r1
          have z2 := (O5.out.cellAt (k * 2 + 1) (by omega)).trans r2
          have f1 := O5.out.frozenAt (k * 2)
          have f2 := O5.out.frozenAt (k * 2 + 1)
          have ST1 := Lib.hid (O5.out.stored (k * 2) (.string u.nm))
          have ST2 := Lib.hid (ST1.out.1.stored (k * 2 + 1) (.slice q5 u.args.length d5))
          have hgb : W2.heap.size < w5.heap.size := by omega
          have NX := Lib.hid (rest_set L u (.slice q5 u.args.length d5) (m - k) (by omega))
          rw [hLl] at NX
          clear r1 r2
          have FAR : Hid (∀ b o, b ≠ W2.heap.size → ((w5.setCell ⟨W2.heap.size, k * 2, none⟩ (.string u.nm)).setCell ⟨W2.heap.size, k * 2 + 1, none⟩ (.slice q5 u.args.length d5)).cell? ⟨b, o, none⟩ = w5.cell? ⟨b, o, none⟩) := Lib.hid (fun b o hb => by rw [cell_far hb, cell_far hb])
          have fin : Hid (∀ w6, w6 = (w5.setCell ⟨W2.heap.size, k * 2, none⟩ (.string u.nm)).setCell ⟨W2.heap.size, k * 2 + 1, none⟩ (.slice q5 u.args.length d5) → 
              Hid ((L ++ [(u, Value.slice q5 u.args.length d5)]).map (·.1) = (l.take (k + 1)).map (repT φ)) ∧ Hid (w6.ownsRow W2.heap.size 27 2 (.slice (some ⟨W2.heap.size, 0, none⟩) m m) m (flatL (L ++ [(u, Value.slice q5 u.args.length d5)]) ++ restL (m - (k + 1)))) ∧ Hid (∀ x ∈ L ++ [(u, Value.slice q5 u.args.length d5)], SlIn (fun b => W2.heap.size < b ∧ b < w6.heap.size) w6 x.1.args x.2 ∧ x.1.nm.size ≤ maxLen) ∧ Hid (Has w6 w.heap.size #[.string n, .slice (some ⟨b, o, none⟩) m c]) ∧ Hid (Has w6 (w.heap.size + 1) #[.string ⟨#[]⟩, .slice none 0 0]) ∧ Hid (Below w.heap.size w w6) ∧ W2.heap.size < w6.heap.size) := Lib.hid (by
            rintro w6 rfl
            refine ⟨Lib.hid (by rw [List.map_append, hL.out, TT.out]; rfl), Lib.hid (by have := ST2.out.1; rw [NX.out] at this; rw [show m - (k + 1) = m - k - 1 by omega]; exact this), Lib.hid (fun x hx => ?_), Lib.hid ((HO5.out.far (by show w.heap.size ≠ W2.heap.size; omega) _).far (by show w.heap.size ≠ W2.heap.size; omega) _), Lib.hid ((E5.out.far (by show w.heap.size + 1 ≠ W2.heap.size; omega) _).far (by show w.heap.size + 1 ≠ W2.heap.size; omega) _), Lib.hid ((B5.out.setCell (by show w.heap.size ≤ W2.heap.size; omega) _).setCell (by show w.heap.size ≤ W2.heap.size; omega) _), by simpa [World.setCell] using hgb⟩
            rcases List.mem_append.1 hx with hx | hx
            · exact ⟨((I5.out x hx).1.frame fun b o hb => FAR.out b o (by omega)).weaken fun b hb => ⟨hb.1, by simpa [World.setCell] using hb.2⟩, (I5.out x hx).2⟩
            · obtain rfl := List.mem_singleton.1 hx
              exact ⟨((S5.out.weaken (ok' := fun b => W2.heap.size < b ∧ b < w5.heap.size) fun b hb => ⟨by omega, hb.2⟩).frame fun b o hb => FAR.out b o (by omega)).weaken fun b hb => ⟨hb.1, by simpa [World.setCell] using hb.2⟩, N5.out⟩)
          clear ST1 ST2 NX FAR I5 S5 N5 HO5 E5 hI hO hH hE hL TT K5 KK4
          go_wp2_with fail
          go_roundw
          case rel => exact ⟨k + 1, _, by omega, by go_num, fin.out _ rfl⟩
          case measure => simp [intOf]; omega
        · obtain rfl : k = m := by omega
          have HL : Hid (L.map (·.1) = l.map (repT φ)) := Lib.hid (by rw [hL.out, FT.out])
          have OW := hO.out
          rw [Nat.sub_self, show restL 0 = [] from rfl, List.append_nil] at OW
          obtain ⟨x1, x2, _, _, x5⟩ := hH.out.two
          obtain ⟨y1, y2, y3, y4, y5⟩ := hE.out.two
          have r1 := hE.out.put0 (.string n) (.slice (some ⟨W2.heap.size, 0, none⟩) k k)
          have r2 := hE.out.put1 (.string n) (.slice (some ⟨W2.heap.size, 0, none⟩) k k)
          have S4 : Hid (SlIn (fun b => w.heap.size ≤ b ∧ b < ((wr.setCell ⟨w.heap.size + 1, 0, none⟩ (.string n)).setCell ⟨w.heap.size + 1, 1, none⟩ (.slice (some ⟨W2.heap.size, 0, none⟩) k k)).heap.size) ((wr.setCell ⟨w.heap.size + 1, 0, none⟩ (.string n)).setCell ⟨w.heap.size + 1, 1, none⟩ (.slice (some ⟨W2.heap.size, 0, none⟩) k k)) (l.map (repT φ)) (.slice (some ⟨W2.heap.size, 0, none⟩) k k)) := Lib.hid (by
            rw [← HL.out]
            have := slin_own hLl OW hI.out hsz
            exact (this.frame fun b o hb => by rw [cell_far (by show b ≠ w.heap.size + 1; omega), cell_far (by show b ≠ w.heap.size + 1; omega)]).weaken fun b hb => ⟨by omega, by simpa [World.setCell] using hb.2⟩)
          have D4 := Lib.hid ((hD.out.setCell (p := ⟨w.heap.size + 1, 0, none⟩) (by simp) (.string n)).setCell (p := ⟨w.heap.size + 1, 1, none⟩) (by simp) (.slice (some ⟨W2.heap.size, 0, none⟩) k k))
          clear OW hO hI hL HL hD hLl
          go_wp2_with fail
          refine bodyPost_ret (v := .agg #[.string n, .slice (some ⟨W2.heap.size, 0, none⟩) k k]) (by simp [results, Tryz.results45, go_sem, y1, y2]) rfl ?_
          exact ⟨_, _, rfl, S4.out, HNM.out, D4.out⟩
/-- What the renaming makes of a leaf. -/
def renT (NL : List (Ky × ByteArray)) (n : ByteArray) : Tm := match lookK NL n.data.toList with
  | some s => .mk s []
  | none => .mk n []
def namesV (NL : List (Ky × ByteArray)) : List (Ky × Value) := NL.map fun x => (x.1, Value.string x.2)
set_option maxRecDepth 100000 in
set_option maxHeartbeats 1600000 in
theorem renamer_any (NL : List (Ky × ByteArray)) (bm g k : Nat) (n : ByteArray) (hn : n.size ≤ maxLen) (hNL : ∀ x ∈ NL, x.2.size ≤ maxLen) (w : World) (hM : w.ownsMap Tryz.prog 9 heldE bm k (DataOf (namesV NL))) (hg : Has w g #[.map (some bm)]) :
    Calls Tryz.prog 64 #[.string n, .pointer (some ⟨g, 0, none⟩)] w (RepR (renT NL n) w) := by
  obtain ⟨W1, hW1⟩ : ∃ W1, W1 = w.alloc (.cells #[.string ⟨#[]⟩, .slice none 0 0] 27) := ⟨_, rfl⟩
  have B1 : Hid (Below w.heap.size w W1) := Lib.hid (by rw [hW1]; exact below_alloc _ _)
  have H1 : Hid (Has W1 w.heap.size #[.string ⟨#[]⟩, .slice none 0 0]) := Lib.hid (by rw [hW1]; exact Has.new _ _ _)
  have c0 : W1.cell? ⟨g, 0, none⟩ = some (.map (some bm)) := (hg.step0 B1.out).cell 0
  have hM1 : W1.ownsMap Tryz.prog 9 heldE bm k (DataOf (namesV NL)) := by rw [hW1]; exact hM.alloc _
  have LK := look_held (z := .string ⟨#[]⟩) hM1 Tryz.underlying80 (by kernel_rfl) n hn
  have ER : Hid (renT NL n = match lookK NL n.data.toList with | some s => .mk s [] | none => .mk n []) := Lib.hid rfl
  have HN := Lib.hid hn
  have HS := Lib.hid (fun s (h : lookK NL n.data.toList = some s) => hNL _ (lookK_mem h))
  unfold namesV at LK
  simp only [lookK_map (fun x : ByteArray => Value.string x)] at LK
  rw [Option.isSome_map] at LK
  clear hM1 hM hg hNL hn
  generalize renT NL n = u at *
  unfold RepR
  cases ho : lookK NL n.data.toList with
  | none =>
    rw [ho] at LK
    have EU := ER.out
    rw [ho] at EU
    dsimp only at EU
    subst EU
    simp only [Option.map_none, Option.getD_none, Option.isSome_none] at LK
    clear HS ER ho
    dsimp only [Tm.nm, Tm.args]
    go_enter Tryz.func64, Tryz.ntmps64
    go_upto_region 1 with fail
    rw [← hW1]
    clear hW1
    go_wp2_with fail
    refine (leaf_nil n _).mono ?_
    rintro e w2 ⟨rfl, k2⟩
    have D2 := Lib.hid (next0 B1.out k2)
    have H2 := Lib.hid (H1.out.step0 k2)
    obtain ⟨y1, y2, y3, y4, y5⟩ := H2.out.two
    have r1 := H2.out.put0 (.string n) (.slice none 0 0)
    have r2 := H2.out.put1 (.string n) (.slice none 0 0)
    have D3 := Lib.hid ((D2.out.setCell (p := ⟨w.heap.size, 0, none⟩) (by simp) (.string n)).setCell (p := ⟨w.heap.size, 1, none⟩) (by simp) (.slice none 0 0))
    clear k2
    go_wp2_with fail
    refine bodyPost_ret (v := .agg #[.string n, .slice none 0 0]) (by simp [results, Tryz.results64, go_sem, r1, r2]) rfl ?_
    exact ⟨none, 0, rfl, SlIn.none _ _, HN.out, D3.out⟩
  | some s =>
    rw [ho] at LK
    have EU := ER.out
    rw [ho] at EU
    dsimp only at EU
    subst EU
    have HS1 := Lib.hid (HS.out s ho)
    simp only [Option.map_some, Option.getD_some, Option.isSome_some] at LK
    clear HS ER ho
    dsimp only [Tm.nm, Tm.args]
    go_enter Tryz.func64, Tryz.ntmps64
    go_upto_region 1 with fail
    rw [← hW1]
    clear hW1
    go_wp2_with fail
    refine (leaf_nil s _).mono ?_
    rintro e w2 ⟨rfl, k2⟩
    have D2 := Lib.hid (next0 B1.out k2)
    have H2 := Lib.hid (H1.out.step0 k2)
    obtain ⟨y1, y2, y3, y4, y5⟩ := H2.out.two
    have r1 := H2.out.put0 (.string s) (.slice none 0 0)
    have r2 := H2.out.put1 (.string s) (.slice none 0 0)
    have D3 := Lib.hid ((D2.out.setCell (p := ⟨w.heap.size, 0, none⟩) (by simp) (.string s)).setCell (p := ⟨w.heap.size, 1, none⟩) (by simp) (.slice none 0 0))
    clear k2
    go_wp2_with fail
    refine bodyPost_ret (v := .agg #[.string s, .slice none 0 0]) (by simp [results, Tryz.results64, go_sem, r1, r2]) rfl ?_
    exact ⟨none, 0, rfl, SlIn.none _ _, HS1.out, D3.out⟩
theorem put3 {w : World} {g : Nat} {a b c : Value} (h : Has w g #[a, b, c]) (u v x : Value) : Has (((w.setCell ⟨g, 0, none⟩ u).setCell ⟨g, 1, none⟩ v).setCell ⟨g, 2, none⟩ x) g #[u, v, x] := ((h.set 0 u).set 1 v).set 2 x
/-- A rule without a body: its head comes back in new blocks. -/
def RuR (u : Tm) (w : World) (e : Ending) (w' : World) : Prop :=
  ∃ (p : Option Addr) (c : Nat), e = .returned (.agg #[.string u.nm, .slice p u.args.length c, .slice none 0 0]) ∧ SlIn (fun b => w.heap.size ≤ b ∧ b < w'.heap.size) w' u.args (.slice p u.args.length c) ∧ u.nm.size ≤ maxLen ∧ Below w.heap.size w w'
set_option maxRecDepth 100000 in
set_option maxHeartbeats 1600000 in
theorem rinr_nil (g : Nat) (φ : ByteArray → Tm) (h : Tm) (B : Nat) (w : World) (hv : Value) (hB : B ≤ w.heap.size) (hs : SlIn (· < B) w h.args hv) (hn : h.nm.size ≤ maxLen) (hz : sizeT h ≤ 1000000)
    (HF : ∀ (w' : World) (n : ByteArray), Below w.heap.size w w' → n.size ≤ maxLen → Calls Tryz.prog 64 #[.string n, .pointer (some ⟨g, 0, none⟩)] w' (RepR (φ n) w')) :
    Calls Tryz.prog 48 #[.agg #[.string h.nm, hv, .slice none 0 0], .func (.func 64) #[] #[.pointer (some ⟨g, 0, none⟩)]] w (RuR (repT φ h) w) := by
  obtain ⟨p, c, rfl⟩ := hs.form
  have hmf := @hmf0
  obtain ⟨W2, hW2⟩ : ∃ W2, W2 = (w.alloc (.cells #[.string h.nm, .slice p h.args.length c, .slice none 0 0] 34)).alloc (.cells #[.string ⟨#[]⟩, .slice none 0 0, .slice none 0 0] 34) := ⟨_, rfl⟩
  have B2 : Hid (Below w.heap.size w W2) := Lib.hid (by rw [hW2]; exact next0 (below_alloc _ _) (below_alloc _ _))
  have H2 : Hid (Has W2 w.heap.size #[.string h.nm, .slice p h.args.length c, .slice none 0 0]) := Lib.hid (by rw [hW2]; exact (Has.new w _ _).alloc _)
  have E2 : Hid (Has W2 (w.heap.size + 1) #[.string ⟨#[]⟩, .slice none 0 0, .slice none 0 0]) := Lib.hid (by rw [hW2]; exact Has.new1 w _ _ _)
  have hs2 : w.heap.size + 2 ≤ W2.heap.size := by rw [hW2]; simp
  have CB := Lib.hid (replace_any g φ h B W2 (.slice p h.args.length c) (Nat.le_trans hB B2.out.size) (hs.deep B2.out hB) hn hz (fun w' n k hn => HF w' n (next0 B2.out k) hn))
  clear hs hn hz HF hB
  generalize repT φ h = u at *
  unfold RepR at CB
  generalize h.nm = hnm at *
  generalize h.args.length = hl at *
  obtain ⟨y1, y2, y3⟩ := UniA.three H2.out
  go_enter Tryz.func48, Tryz.ntmps48
  go_upto_region 1 with fail
  rw [← hW2]
  clear hW2
  go_wp2_with fail
  refine CB.out.mono ?_
  rintro e w3 ⟨q, d, rfl, hS, hnu, k3⟩
  have D3 := Lib.hid (next0 B2.out k3)
  have H3 := Lib.hid (H2.out.step0 k3)
  have E3 := Lib.hid (E2.out.step0 k3)
  have S3 := Lib.hid (hS.weaken (ok' := fun b => W2.heap.size ≤ b ∧ b < w3.heap.size) (fun b hb => hb))
  have NU := Lib.hid hnu
  clear y1 y2 y3 hS hnu k3 H2 E2 CB
  obtain ⟨W4, hW4⟩ : ∃ W4, W4 = w3.alloc (.cells #[.string u.nm, .slice q u.args.length d, .slice none 0 0] 34) := ⟨_, rfl⟩
  have K4 : Hid (Below w3.heap.size w3 W4) := Lib.hid (by rw [hW4]; exact below_alloc _ _)
  have R4 : Hid (Has W4 w3.heap.size #[.string u.nm, .slice q u.args.length d, .slice none 0 0]) := Lib.hid (by rw [hW4]; exact Has.new _ _ _)
  have H4 := Lib.hid (H3.out.step0 K4.out)
  have E4 := Lib.hid (E3.out.step0 K4.out)
  have D4 := Lib.hid (next0 D3.out K4.out)
  have S4 := Lib.hid ((S3.out.frame (w' := W4) fun b o hb => K4.out.cell (p := ⟨b, o, none⟩) hb.2).weaken (ok' := fun b => W2.heap.size ≤ b ∧ b < W4.heap.size) fun b hb => ⟨hb.1, Nat.lt_of_lt_of_le hb.2 K4.out.size⟩)
  clear D3 H3 E3 S3
  obtain ⟨y1, y2, y3⟩ := UniA.three H4.out
  go_upto_region 2 with fail
  rw [← hW4]
  clear hW4
  go_wp2_with fail
  go_loopw [16] (fun i wr => ∃ k : Nat, k ≤ 0 ∧ i = .int .i64 k ∧ Hid (Below W4.heap.size W4 wr)) (fun i _ => 0 - (intOf i).toNat)
  case atStart => exact ⟨0, Nat.le_refl _, rfl, Lib.hid (Below.refl _ _)⟩
  case round =>
    obtain ⟨k, hk, rfl, hK⟩ := hrel
    have hk0 : ¬ ((k : Int) < 0) := by omega
    have E5 := Lib.hid (E4.out.step0 hK.out)
    have R5 := Lib.hid (R4.out.step0 hK.out)
    have D5 := Lib.hid (next0 D4.out hK.out)
    have S5 := Lib.hid ((S4.out.frame (w' := wr) fun b o hb => hK.out.cell (p := ⟨b, o, none⟩) hb.2).weaken (ok' := fun b => W2.heap.size ≤ b ∧ b < wr.heap.size) fun b hb => ⟨hb.1, Nat.lt_of_lt_of_le hb.2 hK.out.size⟩)
    clear E4 R4 D4 S4 H4 y1 y2 y3
    obtain ⟨y1, y2, y3⟩ := UniA.three R5.out
    obtain ⟨z1, z2, z3⟩ := UniA.three E5.out
    have f1 := E5.out.free 0
    have f2 := E5.out.free 1
    have f3 := E5.out.free 2
    have hel : w.heap.size + 1 < wr.heap.size := E5.out.lt
    have R6 := put3 E5.out (.string u.nm) (.slice q u.args.length d) (.slice none 0 0)
    obtain ⟨r1, r2, r3⟩ := UniA.three R6
    have D6 := Lib.hid (((D5.out.setCell (p := ⟨w.heap.size + 1, 0, none⟩) (by simp) (.string u.nm)).setCell (p := ⟨w.heap.size + 1, 1, none⟩) (by simp) (.slice q u.args.length d)).setCell (p := ⟨w.heap.size + 1, 2, none⟩) (by simp) (.slice none 0 0))
    have S6 := Lib.hid (S5.out.frame (w' := ((wr.setCell ⟨w.heap.size + 1, 0, none⟩ (.string u.nm)).setCell ⟨w.heap.size + 1, 1, none⟩ (.slice q u.args.length d)).setCell ⟨w.heap.size + 1, 2, none⟩ (.slice none 0 0)) (fun b o hb => by
      rw [cell_far (by show b ≠ w.heap.size + 1; omega), cell_far (by show b ≠ w.heap.size + 1; omega), cell_far (by show b ≠ w.heap.size + 1; omega)]))
    clear R6 E5 R5 D5 S5
    go_wp2_with fail
    refine bodyPost_ret (v := .agg #[.string u.nm, .slice q u.args.length d, .slice none 0 0]) (by simp [results, Tryz.results48, go_sem, r1, r2, r3]) rfl ?_
    unfold RuR
    exact ⟨q, d, rfl, S6.out.weaken (fun b hb => ⟨by omega, by simpa [World.setCell] using hb.2⟩), NU.out, D6.out⟩
end UnmH
end Go.Proofs.YtaenalpckloikaaGreatDoor
/- Rename of a rule without a body whose new names are all variables. Conditions: fewer than a hundred variables, at most 900000 parts. -/
namespace Go.Proofs.YtaenalpckloikaaGreatDoor
open Go Go.RowKit Go.Maps Go.WideMaps
namespace UnmI
open LexM TermM TermI Kit TermN TermU TermL TermE TermF UniK UniM UniA UniC UniD UniE UnmA UnmB UnmC UnmD UnmE UnmF UnmG UnmH
def namesK (f : Nat → ByteArray) (vs : List ByteArray) : Nat → List (Ky × ByteArray)
  | 0 => []
  | k + 1 => match vs[k]? with
    | some v => (v.data.toList, f k) :: namesK f vs k
    | none => namesK f vs k
def newName (pre : ByteArray) (k : Nat) : ByteArray := pre ++ ⟨(Lib.decDigits (k + 1)).toArray⟩
theorem names_next {f : Nat → ByteArray} {vs : List ByteArray} {k : Nat} {v : ByteArray} (h : vs[k]? = some v) : namesV (namesK f vs (k + 1)) = (v.data.toList, Value.string (f k)) :: namesV (namesK f vs k) := by
  simp [namesK, h, namesV]
theorem names_mem {f : Nat → ByteArray} {vs : List ByteArray} : ∀ {k : Nat} {x : Ky × ByteArray}, x ∈ namesK f vs k → ∃ j, j < k ∧ j < vs.length ∧ x.2 = f j
  | 0, x, h => by simp [namesK] at h
  | k + 1, x, h => by
    unfold namesK at h
    cases hv : vs[k]? with
    | none =>
      rw [hv] at h
      obtain ⟨j, h1, h2⟩ := names_mem h
      exact ⟨j, by omega, h2⟩
    | some v =>
      rw [hv] at h
      rcases List.mem_cons.1 h with rfl | h
      · exact ⟨k, by omega, (List.getElem?_eq_some_iff.1 hv).1, rfl⟩
      · obtain ⟨j, h1, h2⟩ := names_mem h
        exact ⟨j, by omega, h2⟩
/-- What Rename leaves. -/
def RnR (u : Tm) (w : World) (e : Ending) (w' : World) : Prop :=
  ∃ (p : Option Addr) (c : Nat), e = .returned (.tuple #[.agg #[.string u.nm, .slice p u.args.length c, .slice none 0 0], .bool true]) ∧ SlIn (fun b => w.heap.size ≤ b ∧ b < w'.heap.size) w' u.args (.slice p u.args.length c) ∧ u.nm.size ≤ maxLen ∧ Below w.heap.size w w'
set_option maxRecDepth 100000 in
set_option maxHeartbeats 1600000 in
theorem rename_nil (h : Tm) (pre : ByteArray) (B : Nat) (w : World) (hv : Value) (hB : B ≤ w.heap.size) (hs : SlIn (· < B) w h.args hv) (hn : h.nm.size ≤ maxLen) (hz : sizeT h ≤ 900000)
    (hl : (varsOf (leavesL [h])).length < 99) (hN : ∀ k, k < (varsOf (leavesL [h])).length → varB (newName pre k) = true) :
    Calls Tryz.prog 33 #[.agg #[.string h.nm, hv, .slice none 0 0], .string pre] w (RnR (repT (renT (namesK (newName pre) (varsOf (leavesL [h])) (varsOf (leavesL [h])).length)) h) w) := by
  obtain ⟨p, c, rfl⟩ := hs.form
  obtain ⟨W2, hW2⟩ : ∃ W2, W2 = (w.alloc (.cells #[.string h.nm, .slice p h.args.length c, .slice none 0 0] 34)).alloc (.cells #[.string ⟨#[]⟩, .slice none 0 0, .slice none 0 0] 34) := ⟨_, rfl⟩
  have B2 : Hid (Below w.heap.size w W2) := Lib.hid (by rw [hW2]; exact next0 (below_alloc _ _) (below_alloc _ _))
  have H2 : Hid (Has W2 w.heap.size #[.string h.nm, .slice p h.args.length c, .slice none 0 0]) := Lib.hid (by rw [hW2]; exact (Has.new w _ _).alloc _)
  have E2 : Hid (Has W2 (w.heap.size + 1) #[.string ⟨#[]⟩, .slice none 0 0, .slice none 0 0]) := Lib.hid (by rw [hW2]; exact Has.new1 w _ _ _)
  have hs2 : w.heap.size + 2 ≤ W2.heap.size := by rw [hW2]; simp
  obtain ⟨W3, hW3⟩ : ∃ W3, W3 = (W2.alloc (.map #[] 0)).alloc (.cells #[.map (some W2.heap.size)] 80) := ⟨_, rfl⟩
  have B3 : Hid (Below W2.heap.size W2 W3) := Lib.hid (by rw [hW3]; exact next0 (below_alloc _ _) (below_alloc _ _))
  have M3 : Hid (W3.ownsMap Tryz.prog 9 heldE W2.heap.size 0 (DataOf (namesV (namesK (newName pre) (varsOf (leavesL [h])) 0)))) := Lib.hid (by rw [hW3]; exact (World.ownsMap_made _ _ _ _).alloc _)
  have N3 : Hid (Has W3 (W2.heap.size + 1) #[.map (some W2.heap.size)]) := Lib.hid (by rw [hW3]; exact Has.new1 W2 _ _ _)
  have hs3 : W2.heap.size + 2 ≤ W3.heap.size := by rw [hW3]; simp
  have D3 := Lib.hid (next0 B2.out B3.out)
  have CV := Lib.hid (rvars_nil h B W3 (.slice p h.args.length c) (Nat.le_trans hB D3.out.size) (hs.deep D3.out hB) hn hz)
  have CB := Lib.hid (fun NL w' (k : Below w.heap.size w w') (HF : ∀ (w'' : World) (n : ByteArray), Below w'.heap.size w' w'' → n.size ≤ maxLen → Calls Tryz.prog 64 #[.string n, .pointer (some ⟨W2.heap.size + 1, 0, none⟩)] w'' (RepR (renT NL n) w'')) => rinr_nil (W2.heap.size + 1) (renT NL) h B w' (.slice p h.args.length c) (Nat.le_trans hB k.size) (hs.deep k hB) hn (by omega) HF)
  have hmm := @run_makeMap Tryz.prog
  have hmf := @hmf0
  unfold Vrs at CV
  have VV := Lib.hid (fun v (h9 : v ∈ varsOf (leavesL [h])) => var_ok (vars_var v h9))
  clear hs hn hz hB
  generalize varsOf (leavesL [h]) = vs at *
  generalize hm : vs.length = m at *
  have HM := Lib.hid hm
  have NX := Lib.hid (fun k v (h : vs[k]? = some v) => names_next (f := newName pre) h)
  have NM := Lib.hid (fun x (h : x ∈ namesK (newName pre) vs m) => show x.2.size ≤ maxLen from by
    obtain ⟨j, h1, h2, h3⟩ := names_mem h
    rw [h3]
    have := var_ok (hN j h1)
    unfold maxLen
    omega)
  have VN := Lib.hid hN
  have VL := Lib.hid (fun k (h : k < m) => var_ok (hN k h))
  clear hm hN
  have CB1 := Lib.hid (CB.out (namesK (newName pre) vs m))
  generalize hNL : namesK (newName pre) vs = NL at *
  clear hNL
  generalize repT (renT (NL m)) h = u at *
  unfold RuR at CB1
  generalize h.nm = hnm at *
  generalize h.args.length = hl9 at *
  clear CB
  have k1 := H2.out.cell 0
  obtain ⟨y1, y2, y3⟩ := UniA.three (H2.out.step0 B3.out)
  go_enter Tryz.func33, Tryz.ntmps33
  go_upto_region 1 with fail
  rw [← hW2]
  clear hW2
  go_upto_region 2 with fail
  rw [← hW3]
  clear hW3 hmm k1
  go_wp2_with fail
  refine CV.out.mono ?_
  rintro e w4 ⟨v4, base4, rfl, h1, h2, h3⟩
  obtain ⟨a9, c9, rfl⟩ := row_form h1
  have O4 := Lib.hid h1
  have D4 := Lib.hid (next0 D3.out h3)
  have M4 := Lib.hid (M3.out.kept (row := none) ⟨h3.os, h3.tape, h3.output, h3.size, fun i hi _ => h3.block i hi⟩ (by simp))
  have N4 := Lib.hid (N3.out.step0 h3)
  have H4 := Lib.hid ((H2.out.step0 B3.out).step0 h3)
  have E4 := Lib.hid ((E2.out.step0 B3.out).step0 h3)
  have hs4 : W3.heap.size ≤ w4.heap.size := h3.size
  clear h1 h3 y1 y2 y3 M3 N3 CV
  go_wp2_with fail
  go_loopw [14] (fun i wr => ∃ k : Nat, k ≤ m ∧ i = .int .i64 k ∧ Hid (wr.ownsMap Tryz.prog 9 heldE W2.heap.size k (DataOf (namesV (NL k)))) ∧ Hid (Ch W2.heap.size w4 wr)) (fun i _ => m - (intOf i).toNat)
  case atStart => exact ⟨0, Nat.zero_le _, rfl, M4, Lib.hid (Ch.refl _ _)⟩
  case round =>
    obtain ⟨k, hk, rfl, hM, hF⟩ := hrel
    by_cases hlt : k < m
    · obtain ⟨v0, hv0⟩ : ∃ v0, vs[k]? = some v0 := ⟨vs[k]'(by rw [HM.out]; exact hlt), by simp⟩
      have OR : wr.ownsRow base4 9 1 (.slice a9 m c9) vs.length (strs vs) := by
        rw [HM.out]
        exact O4.out.kept hF.out (Or.inr (fun e => by have := (O4.out.lt _ e).1; omega))
      obtain ⟨g, cap, hav, hcell, hgb, hgl⟩ := row_str OR hv0
      injection hav with hav1 hav3 hav2
      subst hav1 hav2
      clear hav3
      have CI : Hid (∀ w', Calls Tryz.prog 63 #[.int .i64 ((k : Int) + 1)] w' fun e w'' => e = .returned (.string ⟨(Lib.decDigits (k + 1)).toArray⟩) ∧ w'' = w') := Lib.hid (fun w' => by
        have := Tryz.strconv_Itoa_small (k + 1) (by omega) w'
        simpa using this)
      have hv16 : (pre ++ ⟨(Lib.decDigits (k + 1)).toArray⟩).size ≤ 16 := VL.out k hlt
      have KV := Lib.hid (fun w' => TermC.var_any (newName pre k) w' (by have := VL.out k hlt; omega))
      have KB9 : Hid (varL (newName pre k).data.toList = true) := Lib.hid (VN.out k hlt)
      rw [KB9.out] at KV
      unfold newName at KV
      have HNX := Lib.hid (NX.out k v0 hv0)
      have hvl9 : v0.size ≤ maxLen := by have := VV.out v0 (List.mem_of_getElem? hv0); unfold maxLen; omega
      have HK : keyOf Tryz.prog 9 (.string v0) = some (.string v0.data.toList) := keyOf_string_mk Tryz.underlying9 hvl9
      have A0 : k < maxLen := by unfold maxLen; omega
      have c6 : wr.cell? ⟨W2.heap.size + 1, 0, none⟩ = some (.map (some W2.heap.size)) := (hF.out.has N4.out (by omega)).cell 0
      clear hv0 OR KB9
      generalize hdg : (⟨(Lib.decDigits (k + 1)).toArray⟩ : ByteArray) = dg at *
      have hv1 : pre.size ≤ 16 := by rw [ByteArray.size_append] at hv16; omega
      have hv2 : dg.size ≤ 16 := by rw [ByteArray.size_append] at hv16; omega
      have HDG : Hid (newName pre k = pre ++ dg) := Lib.hid (by rw [← hdg]; rfl)
      clear hdg
      go_wp2_with fail
      refine (CI.out _).mono ?_
      rintro e w5 ⟨rfl, rfl⟩
      go_wp2_with fail
      refine (KV.out _).mono ?_
      rintro e w5' ⟨rfl, rfl⟩
      go_wp2_with (at_mapUpdate; refine wpList_mapUpdate_own _ rfl _ _ _ 80 rfl 9 9 TermE.law Tryz.underlying80 heldE W2.heap.size k _ rfl hM.out A0 _ _ _ rfl rfl HK _ [] rfl ?_; intro w6 hown6 hgrow6)
      have M6 : Hid (w6.ownsMap Tryz.prog 9 heldE W2.heap.size (k + 1) (DataOf (namesV (NL (k + 1))))) := Lib.hid (by rw [HNX.out, HDG.out]; exact hown6)
      have F6 := Lib.hid (hF.out.trans hgrow6)
      clear hown6 hgrow6
      go_wp2_with fail
      go_roundw
      case rel => (repeat (refine Exists.intro _ ?_)); first | exact ⟨k + 1, by omega, by go_num, M6, F6⟩ | (refine ⟨?_, rfl⟩; exact ⟨k + 1, by omega, by go_num, M6, F6⟩)
      case measure => simp [intOf]; omega
    · obtain rfl : k = m := by omega
      have B5 : Hid (Below W2.heap.size w4 wr) := Lib.hid (hF.out.toBelow (Nat.le_refl _) (by omega))
      have D5 := Lib.hid (D4.out.trans (B5.out.mono (by omega)))
      have H5 := Lib.hid (hF.out.has H4.out (by omega))
      have E5 := Lib.hid (hF.out.has E4.out (by omega))
      have N5 := Lib.hid (hF.out.has N4.out (by omega))
      have CB2 := Lib.hid (CB1.out wr D5.out (fun w'' n k9 hn => renamer_any (NL k) W2.heap.size (W2.heap.size + 1) k n hn NM.out w'' (hM.out.kept (row := none) ⟨k9.os, k9.tape, k9.output, k9.size, fun i hi _ => k9.block i hi⟩ (by simp)) (N5.out.step0 k9)))
      obtain ⟨y1, y2, y3⟩ := UniA.three H5.out
      clear CB1 hF hM
      go_wp2_with fail
      refine CB2.out.mono ?_
      rintro e w7 ⟨q, d, rfl, hS, hnu, k7⟩
      have D7 := Lib.hid (next0 D5.out k7)
      have E7 := Lib.hid (E5.out.step0 k7)
      have S7 := Lib.hid (hS.weaken (ok' := fun b => wr.heap.size ≤ b ∧ b < w7.heap.size) (fun b hb => hb))
      have NU := Lib.hid hnu
      have hsr : w4.heap.size ≤ wr.heap.size := B5.out.size
      clear y1 y2 y3 hS hnu k7 CB2
      obtain ⟨z1, z2, z3⟩ := UniA.three E7.out
      have f1 := E7.out.free 0
      have f2 := E7.out.free 1
      have f3 := E7.out.free 2
      have R8 := put3 E7.out (.string u.nm) (.slice q u.args.length d) (.slice none 0 0)
      obtain ⟨r1, r2, r3⟩ := UniA.three R8
      have D8 := Lib.hid (((D7.out.setCell (p := ⟨w.heap.size + 1, 0, none⟩) (by simp) (.string u.nm)).setCell (p := ⟨w.heap.size + 1, 1, none⟩) (by simp) (.slice q u.args.length d)).setCell (p := ⟨w.heap.size + 1, 2, none⟩) (by simp) (.slice none 0 0))
      have S8 := Lib.hid (S7.out.frame (w' := ((w7.setCell ⟨w.heap.size + 1, 0, none⟩ (.string u.nm)).setCell ⟨w.heap.size + 1, 1, none⟩ (.slice q u.args.length d)).setCell ⟨w.heap.size + 1, 2, none⟩ (.slice none 0 0)) (fun b o hb => by
        rw [cell_far (by show b ≠ w.heap.size + 1; omega), cell_far (by show b ≠ w.heap.size + 1; omega), cell_far (by show b ≠ w.heap.size + 1; omega)]))
      clear R8 E7 D7 S7
      go_wp2_with fail
      refine bodyPost_ret (v := .tuple #[.agg #[.string u.nm, .slice q u.args.length d, .slice none 0 0], .bool true]) (by simp [results, Tryz.results33, go_sem, r1, r2, r3]) rfl ?_
      unfold RnR
      exact ⟨q, d, rfl, S8.out.weaken (fun b hb => ⟨by omega, by simpa [World.setCell] using hb.2⟩), NU.out, D8.out⟩
end UnmI
end Go.Proofs.YtaenalpckloikaaGreatDoor
