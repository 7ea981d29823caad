/- Texts laid together: UnmH; UnmI; UnmJ; UnmK; UnmL; UnnA. Their own heads stand before each. -/
import Derived.Test.YtjfgnmmcdgpiiaaGreatDoorGM3
import Derived.Test.YtjfgnmmcdgpiiaaGreatDoorUniF
import Derived.Test.YtjfgnmmcdgpiiaaGreatDoorUniO
import Derived.Test.YtjfgnmmcdgpiiaaGreatDoorUniV
import Derived.Test.YtjfgnmmcdgpiiaaGreatDoorUniP
import Derived.Test.YtjfgnmmcdgpiiaaGreatDoorTermEq
import Derived.Deep.RegionHeld3
import Derived.Deep.RegionLaw
import Derived.Deep.DeepCutAuto
import Derived.Test.YtjfgnmmcdgpiiaaGreatDoorTermJ
import Derived.Test.YtjfgnmmcdgpiiaaGreatDoorUniW
import Derived.Deep.DeepHandedRow
import Derived.Lib.LaidTab
import Derived.Lib.LaidU8
import Derived.LaidSub
import Derived.ChangeMaps5
/- Renaming of the leaves of a rule without a body: replace with Rename's closure. Condition: at most a million parts. Made by genunmh.py. -/
namespace Go.Proofs.YtjfgnmmcdgpiiaaGreatDoor
open Go Go.RowKit Go.Maps Go.WideMaps
namespace UnmH
open LexM TermM TermI Kit TermN TermU UniK UniM UniA UniC UniD UniE UnmA UnmD
set_option maxRecDepth 100000 in
set_option maxHeartbeats 6400000 in
theorem replace_any (g : Nat) (φ : ByteArray → Tm) (t : Tm) : ∀ (B : Nat) (w : World) (sv : Value), B ≤ w.heap.size → SlIn (· < B) w t.args sv → t.nm.size ≤ maxLen → sizeT t ≤ 1000000 →
    (∀ (w' : World) (n : ByteArray), Below w.heap.size w w' → n.size ≤ maxLen → Calls Tryz.prog 64 #[.string n, .pointer (some ⟨g, 0, none⟩)] w' (RepR (φ n) w')) →
    Calls Tryz.prog 45 #[.agg #[.string t.nm, sv], .func (.func 64) #[] #[.pointer (some ⟨g, 0, none⟩)]] w (RepR (repT φ t) w) := by
  obtain ⟨i0, hi, hz0, hz1, hz2⟩ := info_parts Tryz.info28
  induction t using Tm.ind with
  | h n l ih =>
    intro B w sv hB h hnm hz HF
    dsimp only [Tm.args, Tm.nm] at h hnm ⊢
    obtain ⟨p, c, rfl, hn, hc, hm, hR⟩ := h.row
    have hls := len_size l
    simp only [sizeT] at hz
    obtain ⟨W2, hW2⟩ : ∃ W2, W2 = (w.alloc (.cells #[.string n, .slice p l.length c] 27)).alloc (.cells #[.string ⟨#[]⟩, .slice none 0 0] 27) := ⟨_, rfl⟩
    have G2 : Gr w W2 := by rw [hW2]; exact (Gr.alloc _ _).more _
    have hz2w : w.heap.size + 2 ≤ W2.heap.size := by rw [hW2]; simp
    have H2 : Hid (Has W2 w.heap.size #[.string n, .slice p l.length c]) := Lib.hid (by rw [hW2]; exact (Has.new w _ _).alloc _)
    have E2 : Hid (Has W2 (w.heap.size + 1) #[.string ⟨#[]⟩, .slice none 0 0]) := Lib.hid (by rw [hW2]; exact Has.new1 w _ _ _)
    have hmf := @hmf0
    by_cases h0 : l = []
    · subst h0
      have e1 : repT φ (.mk n []) = φ n := by simp [repT]
      rw [e1]
      have CF := Lib.hid (HF W2 n G2.1 hnm)
      clear ih hR h hz HF hls
      generalize φ n = u at *
      unfold RepR at CF ⊢
      simp only [List.length_nil] at hW2 H2
      go_enter Tryz.func45, Tryz.ntmps45
      go_upto_region 1 with fail
      rw [← hW2]
      clear hW2
      obtain ⟨x1, x2, x3, x4, x5⟩ := H2.out.two
      go_wp2_with fail
      refine CF.out.mono ?_
      rintro e w3 ⟨q, d, rfl, hS, hnu, hb⟩
      have B3 := Lib.hid (next0 G2.1 hb)
      obtain ⟨y1, y2, y3, y4, y5⟩ := (E2.out.step0 hb).two
      have r1 := (E2.out.step0 hb).put0 (.string u.nm) (.slice q u.args.length d)
      have r2 := (E2.out.step0 hb).put1 (.string u.nm) (.slice q u.args.length d)
      have S4 := Lib.hid (((hS.weaken (ok' := fun b => W2.heap.size ≤ b ∧ b < w3.heap.size) (fun b hb => hb)).frame (w' := (w3.setCell ⟨w.heap.size + 1, 0, none⟩ (.string u.nm)).setCell ⟨w.heap.size + 1, 1, none⟩ (.slice q u.args.length d)) (fun b o hb => by
        rw [cell_far (by show b ≠ w.heap.size + 1; omega), cell_far (by show b ≠ w.heap.size + 1; omega)])))
      have D4 := Lib.hid ((B3.out.setCell (p := ⟨w.heap.size + 1, 0, none⟩) (by simp) (.string u.nm)).setCell (p := ⟨w.heap.size + 1, 1, none⟩) (by simp) (.slice q u.args.length d))
      have HNU := Lib.hid hnu
      clear hS hb B3 hnu CF x1 x2 x3 x4
      go_wp2_with fail
      refine bodyPost_ret (v := .agg #[.string u.nm, .slice q u.args.length d]) (by simp [results, Tryz.results45, go_sem, y1, y2]) rfl ?_
      exact ⟨q, d, rfl, S4.out.weaken (fun b hb => ⟨by omega, by simpa [World.setCell] using hb.2⟩), HNU.out, D4.out⟩
    · have hne : l.isEmpty = false := by cases l <;> simp_all
      have e1 : repT φ (.mk n l) = .mk n (l.map (repT φ)) := by rw [repT, if_neg (by simp [hne]), repL_map]
      rw [e1]
      have hlp : 0 < l.length := List.length_pos_iff.2 h0
      obtain ⟨wm, M, O, G⟩ := run_make_full (P := Tryz.prog) W2 W2.heap.size 25 27 i0 _ 2 Tryz.underlying25 hi hz0 hz1 .i64 .i64 l.length (by rw [hz2]; omega) (by unfold maxLen; omega) (Nat.le_refl _)
      have O0 : Hid (wm.ownsRow W2.heap.size 27 2 (.slice (some ⟨W2.heap.size, 0, none⟩) l.length l.length) l.length (flatL [] ++ restL l.length)) := Lib.hid (by rw [made_rest] at O; exact O)
      have Bm := Lib.hid (next0 G2.1 ((Below.refl W2.heap.size W2).grown G (Nat.le_refl _) (fun k h => by cases h)))
      have Hm := Lib.hid (Has.grown H2.out G (by simp))
      have Em := Lib.hid (Has.grown E2.out G (by simp))
      have IH : Hid (∀ t ∈ l, ∀ (w' : World) (v : Value), Below w.heap.size w w' → SlIn (· < B) w' t.args v → t.nm.size ≤ maxLen → Calls Tryz.prog 45 #[.agg #[.string t.nm, v], .func (.func 64) #[] #[.pointer (some ⟨g, 0, none⟩)]] w' (RepR (repT φ t) w')) :=
        Lib.hid (fun t hk w' v hb h hn => ih t hk B w' v (Nat.le_trans hB hb.size) h hn (by have := size_mem hk; omega) (fun w2 n2 hb2 hn2 => HF w2 n2 (next0 hb hb2) hn2))
      have TK : Hid (∀ k t, l[k]? = some t → (l.take (k + 1)).map (repT φ) = (l.take k).map (repT φ) ++ [repT φ t]) := Lib.hid (fun k t h => by rw [take_get l k t h]; simp)
      have FT : Hid ((l.take l.length).map (repT φ) = l.map (repT φ)) := Lib.hid (by simp)
      have HB := Lib.hid hB
      have HR := Lib.hid hR
      have HNM := Lib.hid hnm
      have hlb : l.length ≤ 1000000 := by omega
      have ll : Hid ((l.map (repT φ)).length = l.length) := Lib.hid (by simp)
      unfold RepR
      dsimp only [Tm.nm, Tm.args]
      rw [ll.out]
      generalize hm' : l.length = m at *
      have HM := Lib.hid hm'
      clear ih hR h hm' hn hls hz HF O G ll
      have hm0 : ((m : Int) == 0) = false := by rw [beq_eq_false_iff_ne]; omega
      go_enter Tryz.func45, Tryz.ntmps45
      go_upto_region 1 with fail
      rw [← hW2]
      clear hW2
      obtain ⟨x1, x2, x3, x4, x5⟩ := H2.out.two
      go_upto_region 3 with fail
      go_upto_region 4 with fail
      clear x1 x2 x3 x4 x5
      obtain ⟨x1, x2, x3, x4, x5⟩ := Hm.out.two
      go_wp2_with fail
      go_loopw [23] (fun i wr => ∃ (k : Nat) (L : List (Tm × Value)), k ≤ m ∧ i = .int .i64 k ∧ Hid (L.map (·.1) = (l.take k).map (repT φ)) ∧ Hid (wr.ownsRow W2.heap.size 27 2 (.slice (some ⟨W2.heap.size, 0, none⟩) m m) m (flatL L ++ restL (m - k))) ∧ Hid (∀ x ∈ L, SlIn (fun b => W2.heap.size < b ∧ b < wr.heap.size) wr x.1.args x.2 ∧ x.1.nm.size ≤ maxLen) ∧ Hid (Has wr w.heap.size #[.string n, .slice p m c]) ∧ Hid (Has wr (w.heap.size + 1) #[.string ⟨#[]⟩, .slice none 0 0]) ∧ Hid (Below w.heap.size w wr) ∧ W2.heap.size < wr.heap.size) (fun i _ => m - (intOf i).toNat)
      case atStart => exact ⟨0, [], Nat.zero_le _, rfl, Lib.hid rfl, O0, Lib.hid (fun x hx => absurd hx (List.not_mem_nil)), Hm, Em, Bm, (World.ownsRow.lt O0.out _ rfl).2⟩
      case round =>
        obtain ⟨k, L, hk, rfl, hL, hO, hI, hH, hE, hD, hsz⟩ := hrel
        have hLl : L.length = k := by
          have := congrArg List.length hL.out
          rw [List.length_map, List.length_map, List.length_take, HM.out] at this
          omega
        by_cases hlt : k < m
        · obtain ⟨t, b, o, q, d, ht, rfl, hb, c1, c2, hs, hts⟩ := (Row.deep HR.out hD.out HB.out) k (by rw [HM.out]; exact hlt)
          have TT := Lib.hid (TK.out k t ht)
          obtain ⟨W4, hW4⟩ : ∃ W4, W4 = wr.alloc (.cells #[.string t.nm, .slice q t.args.length d] 27) := ⟨_, rfl⟩
          have D4 : Below w.heap.size w W4 := by rw [hW4]; exact next0 hD.out (below_alloc _ _)
          have k4 : Below wr.heap.size wr W4 := by rw [hW4]; exact below_alloc _ _
          have hz4 : W4.heap.size = wr.heap.size + 1 := by rw [hW4]; simp
          obtain ⟨y1, y2, _⟩ := (show Has W4 wr.heap.size #[.string t.nm, .slice q t.args.length d] by rw [hW4]; exact Has.new _ _ _).two
          have CI := Lib.hid (IH.out t (List.mem_of_getElem? ht) W4 _ D4 (hs.deep k4 (Nat.le_trans HB.out hD.out.size)) hts)
          have DD := Lib.hid D4
          have KK4 := Lib.hid k4
          clear hs hts ht D4 k4
          generalize t.nm = tn at *
          generalize t.args.length = ta at *
          generalize repT φ t = u at *
          unfold RepR at CI
          go_upto_region 7 with fail
          rw [← hW4]
          clear hW4 c1 c2
          go_wp2_with fail
          refine CI.out.mono ?_
          rintro e w5 ⟨q5, d5, rfl, hS5, hn5, hb5⟩
          have B5 := Lib.hid (next0 DD.out hb5)
          have K5 := Lib.hid (next0 KK4.out hb5)
          have O5 := Lib.hid (own_bel hO.out K5.out (fun g h => by cases h; exact hsz))
          have HO5 := Lib.hid (Has.step0 hH.out K5.out)
          have E5 := Lib.hid (Has.step0 hE.out K5.out)
          have I5 : Hid (∀ x ∈ L, SlIn (fun b => W2.heap.size < b ∧ b < w5.heap.size) w5 x.1.args x.2 ∧ x.1.nm.size ≤ maxLen) := Lib.hid (fun x hx => ⟨((hI.out x hx).1.frame fun b o hb => K5.out.cell (p := ⟨b, o, none⟩) hb.2).weaken fun b hb => ⟨hb.1, Nat.lt_of_lt_of_le hb.2 K5.out.size⟩, (hI.out x hx).2⟩)
          have S5 := Lib.hid hS5
          have N5 := Lib.hid hn5
          have hz5 : wr.heap.size + 1 ≤ w5.heap.size := by have := hb5.size; omega
          clear hS5 hn5 hb5 CI y1 y2 DD
          obtain ⟨r1, r2⟩ := rest_at L (m - k) (by omega)
          rw [hLl] at r1 r2
          have z1 := (O5.out.cellAt (k * 2) (by omega)).trans r1
          have z2 := (O5.out.cellAt (k * 2 + 1) (by omega)).trans r2
          have f1 := O5.out.frozenAt (k * 2)
          have f2 := O5.out.frozenAt (k * 2 + 1)
          have ST1 := Lib.hid (O5.out.stored (k * 2) (.string u.nm))
          have ST2 := Lib.hid (ST1.out.1.stored (k * 2 + 1) (.slice q5 u.args.length d5))
          have hgb : W2.heap.size < w5.heap.size := by omega
          have NX := Lib.hid (rest_set L u (.slice q5 u.args.length d5) (m - k) (by omega))
          rw [hLl] at NX
          clear r1 r2
          have FAR : Hid (∀ b o, b ≠ W2.heap.size → ((w5.setCell ⟨W2.heap.size, k * 2, none⟩ (.string u.nm)).setCell ⟨W2.heap.size, k * 2 + 1, none⟩ (.slice q5 u.args.length d5)).cell? ⟨b, o, none⟩ = w5.cell? ⟨b, o, none⟩) := Lib.hid (fun b o hb => by rw [cell_far hb, cell_far hb])
          have fin : Hid (∀ w6, w6 = (w5.setCell ⟨W2.heap.size, k * 2, none⟩ (.string u.nm)).setCell ⟨W2.heap.size, k * 2 + 1, none⟩ (.slice q5 u.args.length d5) → 
              Hid ((L ++ [(u, Value.slice q5 u.args.length d5)]).map (·.1) = (l.take (k + 1)).map (repT φ)) ∧ Hid (w6.ownsRow W2.heap.size 27 2 (.slice (some ⟨W2.heap.size, 0, none⟩) m m) m (flatL (L ++ [(u, Value.slice q5 u.args.length d5)]) ++ restL (m - (k + 1)))) ∧ Hid (∀ x ∈ L ++ [(u, Value.slice q5 u.args.length d5)], SlIn (fun b => W2.heap.size < b ∧ b < w6.heap.size) w6 x.1.args x.2 ∧ x.1.nm.size ≤ maxLen) ∧ Hid (Has w6 w.heap.size #[.string n, .slice (some ⟨b, o, none⟩) m c]) ∧ Hid (Has w6 (w.heap.size + 1) #[.string ⟨#[]⟩, .slice none 0 0]) ∧ Hid (Below w.heap.size w w6) ∧ W2.heap.size < w6.heap.size) := Lib.hid (by
            rintro w6 rfl
            refine ⟨Lib.hid (by rw [List.map_append, hL.out, TT.out]; rfl), Lib.hid (by have := ST2.out.1; rw [NX.out] at this; rw [show m - (k + 1) = m - k - 1 by omega]; exact this), Lib.hid (fun x hx => ?_), Lib.hid ((HO5.out.far (by show w.heap.size ≠ W2.heap.size; omega) _).far (by show w.heap.size ≠ W2.heap.size; omega) _), Lib.hid ((E5.out.far (by show w.heap.size + 1 ≠ W2.heap.size; omega) _).far (by show w.heap.size + 1 ≠ W2.heap.size; omega) _), Lib.hid ((B5.out.setCell (by show w.heap.size ≤ W2.heap.size; omega) _).setCell (by show w.heap.size ≤ W2.heap.size; omega) _), by simpa [World.setCell] using hgb⟩
            rcases List.mem_append.1 hx with hx | hx
            · exact ⟨((I5.out x hx).1.frame fun b o hb => FAR.out b o (by omega)).weaken fun b hb => ⟨hb.1, by simpa [World.setCell] using hb.2⟩, (I5.out x hx).2⟩
            · obtain rfl := List.mem_singleton.1 hx
              exact ⟨((S5.out.weaken (ok' := fun b => W2.heap.size < b ∧ b < w5.heap.size) fun b hb => ⟨by omega, hb.2⟩).frame fun b o hb => FAR.out b o (by omega)).weaken fun b hb => ⟨hb.1, by simpa [World.setCell] using hb.2⟩, N5.out⟩)
          clear ST1 ST2 NX FAR I5 S5 N5 HO5 E5 hI hO hH hE hL TT K5 KK4
          go_wp2_with fail
          go_roundw
          case rel => exact ⟨k + 1, _, by omega, by go_num, fin.out _ rfl⟩
          case measure => simp [intOf]; omega
        · obtain rfl : k = m := by omega
          have HL : Hid (L.map (·.1) = l.map (repT φ)) := Lib.hid (by rw [hL.out, FT.out])
          have OW := hO.out
          rw [Nat.sub_self, show restL 0 = [] from rfl, List.append_nil] at OW
          obtain ⟨x1, x2, _, _, x5⟩ := hH.out.two
          obtain ⟨y1, y2, y3, y4, y5⟩ := hE.out.two
          have r1 := hE.out.put0 (.string n) (.slice (some ⟨W2.heap.size, 0, none⟩) k k)
          have r2 := hE.out.put1 (.string n) (.slice (some ⟨W2.heap.size, 0, none⟩) k k)
          have S4 : Hid (SlIn (fun b => w.heap.size ≤ b ∧ b < ((wr.setCell ⟨w.heap.size + 1, 0, none⟩ (.string n)).setCell ⟨w.heap.size + 1, 1, none⟩ (.slice (some ⟨W2.heap.size, 0, none⟩) k k)).heap.size) ((wr.setCell ⟨w.heap.size + 1, 0, none⟩ (.string n)).setCell ⟨w.heap.size + 1, 1, none⟩ (.slice (some ⟨W2.heap.size, 0, none⟩) k k)) (l.map (repT φ)) (.slice (some ⟨W2.heap.size, 0, none⟩) k k)) := Lib.hid (by
            rw [← HL.out]
            have := slin_own hLl OW hI.out hsz
            exact (this.frame fun b o hb => by rw [cell_far (by show b ≠ w.heap.size + 1; omega), cell_far (by show b ≠ w.heap.size + 1; omega)]).weaken fun b hb => ⟨by omega, by simpa [World.setCell] using hb.2⟩)
          have D4 := Lib.hid ((hD.out.setCell (p := ⟨w.heap.size + 1, 0, none⟩) (by simp) (.string n)).setCell (p := ⟨w.heap.size + 1, 1, none⟩) (by simp) (.slice (some ⟨W2.heap.size, 0, none⟩) k k))
          clear OW hO hI hL HL hD hLl
          go_wp2_with fail
          refine bodyPost_ret (v := .agg #[.string n, .slice (some ⟨W2.heap.size, 0, none⟩) k k]) (by simp [results, Tryz.results45, go_sem, y1, y2]) rfl ?_
          exact ⟨_, _, rfl, S4.out, HNM.out, D4.out⟩
/-- What the renaming makes of a leaf. -/
def renT (NL : List (Ky × ByteArray)) (n : ByteArray) : Tm := match lookK NL n.data.toList with
  | some s => .mk s []
  | none => .mk n []
def namesV (NL : List (Ky × ByteArray)) : List (Ky × Value) := NL.map fun x => (x.1, Value.string x.2)
set_option maxRecDepth 100000 in
set_option maxHeartbeats 1600000 in
theorem renamer_any (NL : List (Ky × ByteArray)) (bm g k : Nat) (n : ByteArray) (hn : n.size ≤ maxLen) (hNL : ∀ x ∈ NL, x.2.size ≤ maxLen) (w : World) (hM : w.ownsMap Tryz.prog 9 heldE bm k (DataOf (namesV NL))) (hg : Has w g #[.map (some bm)]) :
    Calls Tryz.prog 64 #[.string n, .pointer (some ⟨g, 0, none⟩)] w (RepR (renT NL n) w) := by
  obtain ⟨W1, hW1⟩ : ∃ W1, W1 = w.alloc (.cells #[.string ⟨#[]⟩, .slice none 0 0] 27) := ⟨_, rfl⟩
  have B1 : Hid (Below w.heap.size w W1) := Lib.hid (by rw [hW1]; exact below_alloc _ _)
  have H1 : Hid (Has W1 w.heap.size #[.string ⟨#[]⟩, .slice none 0 0]) := Lib.hid (by rw [hW1]; exact Has.new _ _ _)
  have c0 : W1.cell? ⟨g, 0, none⟩ = some (.map (some bm)) := (hg.step0 B1.out).cell 0
  have hM1 : W1.ownsMap Tryz.prog 9 heldE bm k (DataOf (namesV NL)) := by rw [hW1]; exact hM.alloc _
  have LK := look_held (z := .string ⟨#[]⟩) hM1 Tryz.underlying80 (by kernel_rfl) n hn
  have ER : Hid (renT NL n = match lookK NL n.data.toList with | some s => .mk s [] | none => .mk n []) := Lib.hid rfl
  have HN := Lib.hid hn
  have HS := Lib.hid (fun s (h : lookK NL n.data.toList = some s) => hNL _ (lookK_mem h))
  unfold namesV at LK
  simp only [lookK_map (fun x : ByteArray => Value.string x)] at LK
  rw [Option.isSome_map] at LK
  clear hM1 hM hg hNL hn
  generalize renT NL n = u at *
  unfold RepR
  cases ho : lookK NL n.data.toList with
  | none =>
    rw [ho] at LK
    have EU := ER.out
    rw [ho] at EU
    dsimp only at EU
    subst EU
    simp only [Option.map_none, Option.getD_none, Option.isSome_none] at LK
    clear HS ER ho
    dsimp only [Tm.nm, Tm.args]
    go_enter Tryz.func64, Tryz.ntmps64
    go_upto_region 1 with fail
    rw [← hW1]
    clear hW1
    go_wp2_with fail
    refine (leaf_nil n _).mono ?_
    rintro e w2 ⟨rfl, k2⟩
    have D2 := Lib.hid (next0 B1.out k2)
    have H2 := Lib.hid (H1.out.step0 k2)
    obtain ⟨y1, y2, y3, y4, y5⟩ := H2.out.two
    have r1 := H2.out.put0 (.string n) (.slice none 0 0)
    have r2 := H2.out.put1 (.string n) (.slice none 0 0)
    have D3 := Lib.hid ((D2.out.setCell (p := ⟨w.heap.size, 0, none⟩) (by simp) (.string n)).setCell (p := ⟨w.heap.size, 1, none⟩) (by simp) (.slice none 0 0))
    clear k2
    go_wp2_with fail
    refine bodyPost_ret (v := .agg #[.string n, .slice none 0 0]) (by simp [results, Tryz.results64, go_sem, r1, r2]) rfl ?_
    exact ⟨none, 0, rfl, SlIn.none _ _, HN.out, D3.out⟩
  | some s =>
    rw [ho] at LK
    have EU := ER.out
    rw [ho] at EU
    dsimp only at EU
    subst EU
    have HS1 := Lib.hid (HS.out s ho)
    simp only [Option.map_some, Option.getD_some, Option.isSome_some] at LK
    clear HS ER ho
    dsimp only [Tm.nm, Tm.args]
    go_enter Tryz.func64, Tryz.ntmps64
    go_upto_region 1 with fail
    rw [← hW1]
    clear hW1
    go_wp2_with fail
    refine (leaf_nil s _).mono ?_
    rintro e w2 ⟨rfl, k2⟩
    have D2 := Lib.hid (next0 B1.out k2)
    have H2 := Lib.hid (H1.out.step0 k2)
    obtain ⟨y1, y2, y3, y4, y5⟩ := H2.out.two
    have r1 := H2.out.put0 (.string s) (.slice none 0 0)
    have r2 := H2.out.put1 (.string s) (.slice none 0 0)
    have D3 := Lib.hid ((D2.out.setCell (p := ⟨w.heap.size, 0, none⟩) (by simp) (.string s)).setCell (p := ⟨w.heap.size, 1, none⟩) (by simp) (.slice none 0 0))
    clear k2
    go_wp2_with fail
    refine bodyPost_ret (v := .agg #[.string s, .slice none 0 0]) (by simp [results, Tryz.results64, go_sem, r1, r2]) rfl ?_
    exact ⟨none, 0, rfl, SlIn.none _ _, HS1.out, D3.out⟩
theorem put3 {w : World} {g : Nat} {a b c : Value} (h : Has w g #[a, b, c]) (u v x : Value) : Has (((w.setCell ⟨g, 0, none⟩ u).setCell ⟨g, 1, none⟩ v).setCell ⟨g, 2, none⟩ x) g #[u, v, x] := ((h.set 0 u).set 1 v).set 2 x
/-- A rule without a body: its head comes back in new blocks. -/
def RuR (u : Tm) (w : World) (e : Ending) (w' : World) : Prop :=
  ∃ (p : Option Addr) (c : Nat), e = .returned (.agg #[.string u.nm, .slice p u.args.length c, .slice none 0 0]) ∧ SlIn (fun b => w.heap.size ≤ b ∧ b < w'.heap.size) w' u.args (.slice p u.args.length c) ∧ u.nm.size ≤ maxLen ∧ Below w.heap.size w w'
set_option maxRecDepth 100000 in
set_option maxHeartbeats 1600000 in
theorem rinr_nil (g : Nat) (φ : ByteArray → Tm) (h : Tm) (B : Nat) (w : World) (hv : Value) (hB : B ≤ w.heap.size) (hs : SlIn (· < B) w h.args hv) (hn : h.nm.size ≤ maxLen) (hz : sizeT h ≤ 1000000)
    (HF : ∀ (w' : World) (n : ByteArray), Below w.heap.size w w' → n.size ≤ maxLen → Calls Tryz.prog 64 #[.string n, .pointer (some ⟨g, 0, none⟩)] w' (RepR (φ n) w')) :
    Calls Tryz.prog 48 #[.agg #[.string h.nm, hv, .slice none 0 0], .func (.func 64) #[] #[.pointer (some ⟨g, 0, none⟩)]] w (RuR (repT φ h) w) := by
  obtain ⟨p, c, rfl⟩ := hs.form
  have hmf := @hmf0
  obtain ⟨W2, hW2⟩ : ∃ W2, W2 = (w.alloc (.cells #[.string h.nm, .slice p h.args.length c, .slice none 0 0] 34)).alloc (.cells #[.string ⟨#[]⟩, .slice none 0 0, .slice none 0 0] 34) := ⟨_, rfl⟩
  have B2 : Hid (Below w.heap.size w W2) := Lib.hid (by rw [hW2]; exact next0 (below_alloc _ _) (below_alloc _ _))
  have H2 : Hid (Has W2 w.heap.size #[.string h.nm, .slice p h.args.length c, .slice none 0 0]) := Lib.hid (by rw [hW2]; exact (Has.new w _ _).alloc _)
  have E2 : Hid (Has W2 (w.heap.size + 1) #[.string ⟨#[]⟩, .slice none 0 0, .slice none 0 0]) := Lib.hid (by rw [hW2]; exact Has.new1 w _ _ _)
  have hs2 : w.heap.size + 2 ≤ W2.heap.size := by rw [hW2]; simp
  have CB := Lib.hid (replace_any g φ h B W2 (.slice p h.args.length c) (Nat.le_trans hB B2.out.size) (hs.deep B2.out hB) hn hz (fun w' n k hn => HF w' n (next0 B2.out k) hn))
  clear hs hn hz HF hB
  generalize repT φ h = u at *
  unfold RepR at CB
  generalize h.nm = hnm at *
  generalize h.args.length = hl at *
  obtain ⟨y1, y2, y3⟩ := UniA.three H2.out
  go_enter Tryz.func48, Tryz.ntmps48
  go_upto_region 1 with fail
  rw [← hW2]
  clear hW2
  go_wp2_with fail
  refine CB.out.mono ?_
  rintro e w3 ⟨q, d, rfl, hS, hnu, k3⟩
  have D3 := Lib.hid (next0 B2.out k3)
  have H3 := Lib.hid (H2.out.step0 k3)
  have E3 := Lib.hid (E2.out.step0 k3)
  have S3 := Lib.hid (hS.weaken (ok' := fun b => W2.heap.size ≤ b ∧ b < w3.heap.size) (fun b hb => hb))
  have NU := Lib.hid hnu
  clear y1 y2 y3 hS hnu k3 H2 E2 CB
  obtain ⟨W4, hW4⟩ : ∃ W4, W4 = w3.alloc (.cells #[.string u.nm, .slice q u.args.length d, .slice none 0 0] 34) := ⟨_, rfl⟩
  have K4 : Hid (Below w3.heap.size w3 W4) := Lib.hid (by rw [hW4]; exact below_alloc _ _)
  have R4 : Hid (Has W4 w3.heap.size #[.string u.nm, .slice q u.args.length d, .slice none 0 0]) := Lib.hid (by rw [hW4]; exact Has.new _ _ _)
  have H4 := Lib.hid (H3.out.step0 K4.out)
  have E4 := Lib.hid (E3.out.step0 K4.out)
  have D4 := Lib.hid (next0 D3.out K4.out)
  have S4 := Lib.hid ((S3.out.frame (w' := W4) fun b o hb => K4.out.cell (p := ⟨b, o, none⟩) hb.2).weaken (ok' := fun b => W2.heap.size ≤ b ∧ b < W4.heap.size) fun b hb => ⟨hb.1, Nat.lt_of_lt_of_le hb.2 K4.out.size⟩)
  clear D3 H3 E3 S3
  obtain ⟨y1, y2, y3⟩ := UniA.three H4.out
  go_upto_region 2 with fail
  rw [← hW4]
  clear hW4
  go_wp2_with fail
  go_loopw [16] (fun i wr => ∃ k : Nat, k ≤ 0 ∧ i = .int .i64 k ∧ Hid (Below W4.heap.size W4 wr)) (fun i _ => 0 - (intOf i).toNat)
  case atStart => exact ⟨0, Nat.le_refl _, rfl, Lib.hid (Below.refl _ _)⟩
  case round =>
    obtain ⟨k, hk, rfl, hK⟩ := hrel
    have hk0 : ¬ ((k : Int) < 0) := by omega
    have E5 := Lib.hid (E4.out.step0 hK.out)
    have R5 := Lib.hid (R4.out.step0 hK.out)
    have D5 := Lib.hid (next0 D4.out hK.out)
    have S5 := Lib.hid ((S4.out.frame (w' := wr) fun b o hb => hK.out.cell (p := ⟨b, o, none⟩) hb.2).weaken (ok' := fun b => W2.heap.size ≤ b ∧ b < wr.heap.size) fun b hb => ⟨hb.1, Nat.lt_of_lt_of_le hb.2 hK.out.size⟩)
    clear E4 R4 D4 S4 H4 y1 y2 y3
    obtain ⟨y1, y2, y3⟩ := UniA.three R5.out
    obtain ⟨z1, z2, z3⟩ := UniA.three E5.out
    have f1 := E5.out.free 0
    have f2 := E5.out.free 1
    have f3 := E5.out.free 2
    have hel : w.heap.size + 1 < wr.heap.size := E5.out.lt
    have R6 := put3 E5.out (.string u.nm) (.slice q u.args.length d) (.slice none 0 0)
    obtain ⟨r1, r2, r3⟩ := UniA.three R6
    have D6 := Lib.hid (((D5.out.setCell (p := ⟨w.heap.size + 1, 0, none⟩) (by simp) (.string u.nm)).setCell (p := ⟨w.heap.size + 1, 1, none⟩) (by simp) (.slice q u.args.length d)).setCell (p := ⟨w.heap.size + 1, 2, none⟩) (by simp) (.slice none 0 0))
    have S6 := Lib.hid (S5.out.frame (w' := ((wr.setCell ⟨w.heap.size + 1, 0, none⟩ (.string u.nm)).setCell ⟨w.heap.size + 1, 1, none⟩ (.slice q u.args.length d)).setCell ⟨w.heap.size + 1, 2, none⟩ (.slice none 0 0)) (fun b o hb => by
      rw [cell_far (by show b ≠ w.heap.size + 1; omega), cell_far (by show b ≠ w.heap.size + 1; omega), cell_far (by show b ≠ w.heap.size + 1; omega)]))
    clear R6 E5 R5 D5 S5
    go_wp2_with fail
    refine bodyPost_ret (v := .agg #[.string u.nm, .slice q u.args.length d, .slice none 0 0]) (by simp [results, Tryz.results48, go_sem, r1, r2, r3]) rfl ?_
    unfold RuR
    exact ⟨q, d, rfl, S6.out.weaken (fun b hb => ⟨by omega, by simpa [World.setCell] using hb.2⟩), NU.out, D6.out⟩
end UnmH
end Go.Proofs.YtjfgnmmcdgpiiaaGreatDoor
/- Rename of a rule without a body whose new names are all variables. Conditions: fewer than a hundred variables, at most 900000 parts. -/
namespace Go.Proofs.YtjfgnmmcdgpiiaaGreatDoor
open Go Go.RowKit Go.Maps Go.WideMaps
namespace UnmI
open LexM TermM TermI Kit TermN TermU TermL TermE TermF UniK UniM UniA UniC UniD UniE UnmA UnmB UnmC UnmD UnmE UnmF UnmG UnmH
def namesK (f : Nat → ByteArray) (vs : List ByteArray) : Nat → List (Ky × ByteArray)
  | 0 => []
  | k + 1 => match vs[k]? with
    | some v => (v.data.toList, f k) :: namesK f vs k
    | none => namesK f vs k
def newName (pre : ByteArray) (k : Nat) : ByteArray := pre ++ ⟨(Lib.decDigits (k + 1)).toArray⟩
theorem names_next {f : Nat → ByteArray} {vs : List ByteArray} {k : Nat} {v : ByteArray} (h : vs[k]? = some v) : namesV (namesK f vs (k + 1)) = (v.data.toList, Value.string (f k)) :: namesV (namesK f vs k) := by
  simp [namesK, h, namesV]
theorem names_mem {f : Nat → ByteArray} {vs : List ByteArray} : ∀ {k : Nat} {x : Ky × ByteArray}, x ∈ namesK f vs k → ∃ j, j < k ∧ j < vs.length ∧ x.2 = f j
  | 0, x, h => by simp [namesK] at h
  | k + 1, x, h => by
    unfold namesK at h
    cases hv : vs[k]? with
    | none =>
      rw [hv] at h
      obtain ⟨j, h1, h2⟩ := names_mem h
      exact ⟨j, by omega, h2⟩
    | some v =>
      rw [hv] at h
      rcases List.mem_cons.1 h with rfl | h
      · exact ⟨k, by omega, (List.getElem?_eq_some_iff.1 hv).1, rfl⟩
      · obtain ⟨j, h1, h2⟩ := names_mem h
        exact ⟨j, by omega, h2⟩
/-- What Rename leaves. -/
def RnR (u : Tm) (w : World) (e : Ending) (w' : World) : Prop :=
  ∃ (p : Option Addr) (c : Nat), e = .returned (.tuple #[.agg #[.string u.nm, .slice p u.args.length c, .slice none 0 0], .bool true]) ∧ SlIn (fun b => w.heap.size ≤ b ∧ b < w'.heap.size) w' u.args (.slice p u.args.length c) ∧ u.nm.size ≤ maxLen ∧ Below w.heap.size w w'
set_option maxRecDepth 100000 in
set_option maxHeartbeats 1600000 in
theorem rename_nil (h : Tm) (pre : ByteArray) (B : Nat) (w : World) (hv : Value) (hB : B ≤ w.heap.size) (hs : SlIn (· < B) w h.args hv) (hn : h.nm.size ≤ maxLen) (hz : sizeT h ≤ 900000)
    (hl : (varsOf (leavesL [h])).length < 99) (hN : ∀ k, k < (varsOf (leavesL [h])).length → varB (newName pre k) = true) :
    Calls Tryz.prog 33 #[.agg #[.string h.nm, hv, .slice none 0 0], .string pre] w (RnR (repT (renT (namesK (newName pre) (varsOf (leavesL [h])) (varsOf (leavesL [h])).length)) h) w) := by
  obtain ⟨p, c, rfl⟩ := hs.form
  obtain ⟨W2, hW2⟩ : ∃ W2, W2 = (w.alloc (.cells #[.string h.nm, .slice p h.args.length c, .slice none 0 0] 34)).alloc (.cells #[.string ⟨#[]⟩, .slice none 0 0, .slice none 0 0] 34) := ⟨_, rfl⟩
  have B2 : Hid (Below w.heap.size w W2) := Lib.hid (by rw [hW2]; exact next0 (below_alloc _ _) (below_alloc _ _))
  have H2 : Hid (Has W2 w.heap.size #[.string h.nm, .slice p h.args.length c, .slice none 0 0]) := Lib.hid (by rw [hW2]; exact (Has.new w _ _).alloc _)
  have E2 : Hid (Has W2 (w.heap.size + 1) #[.string ⟨#[]⟩, .slice none 0 0, .slice none 0 0]) := Lib.hid (by rw [hW2]; exact Has.new1 w _ _ _)
  have hs2 : w.heap.size + 2 ≤ W2.heap.size := by rw [hW2]; simp
  obtain ⟨W3, hW3⟩ : ∃ W3, W3 = (W2.alloc (.map #[] 0)).alloc (.cells #[.map (some W2.heap.size)] 80) := ⟨_, rfl⟩
  have B3 : Hid (Below W2.heap.size W2 W3) := Lib.hid (by rw [hW3]; exact next0 (below_alloc _ _) (below_alloc _ _))
  have M3 : Hid (W3.ownsMap Tryz.prog 9 heldE W2.heap.size 0 (DataOf (namesV (namesK (newName pre) (varsOf (leavesL [h])) 0)))) := Lib.hid (by rw [hW3]; exact (World.ownsMap_made _ _ _ _).alloc _)
  have N3 : Hid (Has W3 (W2.heap.size + 1) #[.map (some W2.heap.size)]) := Lib.hid (by rw [hW3]; exact Has.new1 W2 _ _ _)
  have hs3 : W2.heap.size + 2 ≤ W3.heap.size := by rw [hW3]; simp
  have D3 := Lib.hid (next0 B2.out B3.out)
  have CV := Lib.hid (rvars_nil h B W3 (.slice p h.args.length c) (Nat.le_trans hB D3.out.size) (hs.deep D3.out hB) hn hz)
  have CB := Lib.hid (fun NL w' (k : Below w.heap.size w w') (HF : ∀ (w'' : World) (n : ByteArray), Below w'.heap.size w' w'' → n.size ≤ maxLen → Calls Tryz.prog 64 #[.string n, .pointer (some ⟨W2.heap.size + 1, 0, none⟩)] w'' (RepR (renT NL n) w'')) => rinr_nil (W2.heap.size + 1) (renT NL) h B w' (.slice p h.args.length c) (Nat.le_trans hB k.size) (hs.deep k hB) hn (by omega) HF)
  have hmm := @run_makeMap Tryz.prog
  have hmf := @hmf0
  unfold Vrs at CV
  have VV := Lib.hid (fun v (h9 : v ∈ varsOf (leavesL [h])) => var_ok (vars_var v h9))
  clear hs hn hz hB
  generalize varsOf (leavesL [h]) = vs at *
  generalize hm : vs.length = m at *
  have HM := Lib.hid hm
  have NX := Lib.hid (fun k v (h : vs[k]? = some v) => names_next (f := newName pre) h)
  have NM := Lib.hid (fun x (h : x ∈ namesK (newName pre) vs m) => show x.2.size ≤ maxLen from by
    obtain ⟨j, h1, h2, h3⟩ := names_mem h
    rw [h3]
    have := var_ok (hN j h1)
    unfold maxLen
    omega)
  have VN := Lib.hid hN
  have VL := Lib.hid (fun k (h : k < m) => var_ok (hN k h))
  clear hm hN
  have CB1 := Lib.hid (CB.out (namesK (newName pre) vs m))
  generalize hNL : namesK (newName pre) vs = NL at *
  clear hNL
  generalize repT (renT (NL m)) h = u at *
  unfold RuR at CB1
  generalize h.nm = hnm at *
  generalize h.args.length = hl9 at *
  clear CB
  have k1 := H2.out.cell 0
  obtain ⟨y1, y2, y3⟩ := UniA.three (H2.out.step0 B3.out)
  go_enter Tryz.func33, Tryz.ntmps33
  go_upto_region 1 with fail
  rw [← hW2]
  clear hW2
  go_upto_region 2 with fail
  rw [← hW3]
  clear hW3 hmm k1
  go_wp2_with fail
  refine CV.out.mono ?_
  rintro e w4 ⟨v4, base4, rfl, h1, h2, h3⟩
  obtain ⟨a9, c9, rfl⟩ := row_form h1
  have O4 := Lib.hid h1
  have D4 := Lib.hid (next0 D3.out h3)
  have M4 := Lib.hid (M3.out.kept (row := none) ⟨h3.os, h3.tape, h3.output, h3.size, fun i hi _ => h3.block i hi⟩ (by simp))
  have N4 := Lib.hid (N3.out.step0 h3)
  have H4 := Lib.hid ((H2.out.step0 B3.out).step0 h3)
  have E4 := Lib.hid ((E2.out.step0 B3.out).step0 h3)
  have hs4 : W3.heap.size ≤ w4.heap.size := h3.size
  clear h1 h3 y1 y2 y3 M3 N3 CV
  go_wp2_with fail
  go_loopw [14] (fun i wr => ∃ k : Nat, k ≤ m ∧ i = .int .i64 k ∧ Hid (wr.ownsMap Tryz.prog 9 heldE W2.heap.size k (DataOf (namesV (NL k)))) ∧ Hid (Ch W2.heap.size w4 wr)) (fun i _ => m - (intOf i).toNat)
  case atStart => exact ⟨0, Nat.zero_le _, rfl, M4, Lib.hid (Ch.refl _ _)⟩
  case round =>
    obtain ⟨k, hk, rfl, hM, hF⟩ := hrel
    by_cases hlt : k < m
    · obtain ⟨v0, hv0⟩ : ∃ v0, vs[k]? = some v0 := ⟨vs[k]'(by rw [HM.out]; exact hlt), by simp⟩
      have OR : wr.ownsRow base4 9 1 (.slice a9 m c9) vs.length (strs vs) := by
        rw [HM.out]
        exact O4.out.kept hF.out (Or.inr (fun e => by have := (O4.out.lt _ e).1; omega))
      obtain ⟨g, cap, hav, hcell, hgb, hgl⟩ := row_str OR hv0
      injection hav with hav1 hav3 hav2
      subst hav1 hav2
      clear hav3
      have CI : Hid (∀ w', Calls Tryz.prog 63 #[.int .i64 ((k : Int) + 1)] w' fun e w'' => e = .returned (.string ⟨(Lib.decDigits (k + 1)).toArray⟩) ∧ w'' = w') := Lib.hid (fun w' => by
        have := Tryz.strconv_Itoa_small (k + 1) (by omega) w'
        simpa using this)
      have hv16 : (pre ++ ⟨(Lib.decDigits (k + 1)).toArray⟩).size ≤ 16 := VL.out k hlt
      have KV := Lib.hid (fun w' => TermC.var_any (newName pre k) w' (by have := VL.out k hlt; omega))
      have KB9 : Hid (varL (newName pre k).data.toList = true) := Lib.hid (VN.out k hlt)
      rw [KB9.out] at KV
      unfold newName at KV
      have HNX := Lib.hid (NX.out k v0 hv0)
      have hvl9 : v0.size ≤ maxLen := by have := VV.out v0 (List.mem_of_getElem? hv0); unfold maxLen; omega
      have HK : keyOf Tryz.prog 9 (.string v0) = some (.string v0.data.toList) := keyOf_string_mk Tryz.underlying9 hvl9
      have A0 : k < maxLen := by unfold maxLen; omega
      have c6 : wr.cell? ⟨W2.heap.size + 1, 0, none⟩ = some (.map (some W2.heap.size)) := (hF.out.has N4.out (by omega)).cell 0
      clear hv0 OR KB9
      generalize hdg : (⟨(Lib.decDigits (k + 1)).toArray⟩ : ByteArray) = dg at *
      have hv1 : pre.size ≤ 16 := by rw [ByteArray.size_append] at hv16; omega
      have hv2 : dg.size ≤ 16 := by rw [ByteArray.size_append] at hv16; omega
      have HDG : Hid (newName pre k = pre ++ dg) := Lib.hid (by rw [← hdg]; rfl)
      clear hdg
      go_wp2_with fail
      refine (CI.out _).mono ?_
      rintro e w5 ⟨rfl, rfl⟩
      go_wp2_with fail
      refine (KV.out _).mono ?_
      rintro e w5' ⟨rfl, rfl⟩
      go_wp2_with (at_mapUpdate; refine wpList_mapUpdate_own _ rfl _ _ _ 80 rfl 9 9 TermE.law Tryz.underlying80 heldE W2.heap.size k _ rfl hM.out A0 _ _ _ rfl rfl HK _ [] rfl ?_; intro w6 hown6 hgrow6)
      have M6 : Hid (w6.ownsMap Tryz.prog 9 heldE W2.heap.size (k + 1) (DataOf (namesV (NL (k + 1))))) := Lib.hid (by rw [HNX.out, HDG.out]; exact hown6)
      have F6 := Lib.hid (hF.out.trans hgrow6)
      clear hown6 hgrow6
      go_wp2_with fail
      go_roundw
      case rel => (repeat (refine Exists.intro _ ?_)); first | exact ⟨k + 1, by omega, by go_num, M6, F6⟩ | (refine ⟨?_, rfl⟩; exact ⟨k + 1, by omega, by go_num, M6, F6⟩)
      case measure => simp [intOf]; omega
    · obtain rfl : k = m := by omega
      have B5 : Hid (Below W2.heap.size w4 wr) := Lib.hid (hF.out.toBelow (Nat.le_refl _) (by omega))
      have D5 := Lib.hid (D4.out.trans (B5.out.mono (by omega)))
      have H5 := Lib.hid (hF.out.has H4.out (by omega))
      have E5 := Lib.hid (hF.out.has E4.out (by omega))
      have N5 := Lib.hid (hF.out.has N4.out (by omega))
      have CB2 := Lib.hid (CB1.out wr D5.out (fun w'' n k9 hn => renamer_any (NL k) W2.heap.size (W2.heap.size + 1) k n hn NM.out w'' (hM.out.kept (row := none) ⟨k9.os, k9.tape, k9.output, k9.size, fun i hi _ => k9.block i hi⟩ (by simp)) (N5.out.step0 k9)))
      obtain ⟨y1, y2, y3⟩ := UniA.three H5.out
      clear CB1 hF hM
      go_wp2_with fail
      refine CB2.out.mono ?_
      rintro e w7 ⟨q, d, rfl, hS, hnu, k7⟩
      have D7 := Lib.hid (next0 D5.out k7)
      have E7 := Lib.hid (E5.out.step0 k7)
      have S7 := Lib.hid (hS.weaken (ok' := fun b => wr.heap.size ≤ b ∧ b < w7.heap.size) (fun b hb => hb))
      have NU := Lib.hid hnu
      have hsr : w4.heap.size ≤ wr.heap.size := B5.out.size
      clear y1 y2 y3 hS hnu k7 CB2
      obtain ⟨z1, z2, z3⟩ := UniA.three E7.out
      have f1 := E7.out.free 0
      have f2 := E7.out.free 1
      have f3 := E7.out.free 2
      have R8 := put3 E7.out (.string u.nm) (.slice q u.args.length d) (.slice none 0 0)
      obtain ⟨r1, r2, r3⟩ := UniA.three R8
      have D8 := Lib.hid (((D7.out.setCell (p := ⟨w.heap.size + 1, 0, none⟩) (by simp) (.string u.nm)).setCell (p := ⟨w.heap.size + 1, 1, none⟩) (by simp) (.slice q u.args.length d)).setCell (p := ⟨w.heap.size + 1, 2, none⟩) (by simp) (.slice none 0 0))
      have S8 := Lib.hid (S7.out.frame (w' := ((w7.setCell ⟨w.heap.size + 1, 0, none⟩ (.string u.nm)).setCell ⟨w.heap.size + 1, 1, none⟩ (.slice q u.args.length d)).setCell ⟨w.heap.size + 1, 2, none⟩ (.slice none 0 0)) (fun b o hb => by
        rw [cell_far (by show b ≠ w.heap.size + 1; omega), cell_far (by show b ≠ w.heap.size + 1; omega), cell_far (by show b ≠ w.heap.size + 1; omega)]))
      clear R8 E7 D7 S7
      go_wp2_with fail
      refine bodyPost_ret (v := .tuple #[.agg #[.string u.nm, .slice q u.args.length d, .slice none 0 0], .bool true]) (by simp [results, Tryz.results33, go_sem, r1, r2, r3]) rfl ?_
      unfold RnR
      exact ⟨q, d, rfl, S8.out.weaken (fun b hb => ⟨by omega, by simpa [World.setCell] using hb.2⟩), NU.out, D8.out⟩
end UnmI
end Go.Proofs.YtjfgnmmcdgpiiaaGreatDoor
/- The chapter's examples, plain. No conditions. -/
namespace Go.Proofs.YtjfgnmmcdgpiiaaGreatDoor
open Go Go.RowKit
namespace UnmJ
open LexM TermM TermI Kit TermN TermU TermL TermE TermF UniK UniM UniA UniC UniD UniE UniO TermT UnmA UnmE UnmF UnmH UnmI
abbrev tA : Tm := .mk ⟨#[97]⟩ []
abbrev tX : Tm := .mk ⟨#[88]⟩ []
abbrev tY : Tm := .mk ⟨#[89]⟩ []
abbrev p2 (n : ByteArray) (s t : Tm) : Tm := .mk n [s, t]
abbrev nP : ByteArray := ⟨#[112]⟩
abbrev both : List Bd := [(⟨#[88]⟩, tA), (⟨#[89]⟩, tA)]
theorem sort2 : sortB [⟨#[88]⟩, ⟨#[89]⟩] = [⟨#[88]⟩, ⟨#[89]⟩] := by
  unfold sortB
  rw [List.mergeSort_of_pairwise (by simp [lists]; decide)]
  rfl
theorem sort1 : sortB [⟨#[88]⟩] = [⟨#[88]⟩] := by
  unfold sortB
  rw [List.mergeSort_of_pairwise (by simp [lists])]
  rfl
theorem v1 : varsOf (leavesL [p2 nP tX tY, p2 nP tY tA]) = [⟨#[88]⟩, ⟨#[89]⟩] := by kernel_rfl
theorem v2 : varsOf (leavesL [tX, p2 ⟨#[102]⟩ tX tA]) = [⟨#[88]⟩] := by kernel_rfl
theorem v3 : varsOf (leavesL [p2 nP tX tY]) = [⟨#[88]⟩, ⟨#[89]⟩] := by kernel_rfl
theorem u1 : unifyP 9 (p2 nP tX tY) (p2 nP tY tA) = some (some both) := by
  unfold unifyP
  rw [v1, sort2]
  kernel_rfl
theorem u2 : unifyP 9 tX (p2 ⟨#[102]⟩ tX tA) = some none := by
  unfold unifyP
  rw [v2, sort1]
  kernel_rfl
theorem len_le {a b : Tm} {k : Nat} (h : (joinP 9 [] a b).map (fun z => z.1.length) = some k) (hk : k ≤ 1000000) : ∀ D r, joinP 9 [] a b = some (D, r) → D.length ≤ 1000000 := by
  intro D r e
  rw [e] at h
  cases h
  exact hk
theorem l1 : (joinP 9 [] (p2 nP tX tY) (p2 nP tY tA)).map (fun z => z.1.length) = some 3 := by kernel_rfl
theorem l2 : (joinP 9 [] tX (p2 ⟨#[102]⟩ tX tA)).map (fun z => z.1.length) = some 1 := by kernel_rfl
theorem m1 : matchP (p2 nP tX tY) (p2 nP tA tA) [] = some both := by kernel_rfl
theorem a1 : appT [(⟨#[88]⟩, tY), (⟨#[89]⟩, tA)] (p2 nP tX tY) = p2 nP tY tA := by kernel_rfl
theorem d1 : vldS both = true := by kernel_rfl
theorem r1 : repT (renT (namesK (newName ⟨#[86]⟩) [⟨#[88]⟩, ⟨#[89]⟩] 2)) (p2 nP tX tY) = p2 nP (.mk ⟨#[86, 49]⟩ []) (.mk ⟨#[86, 50]⟩ []) := by kernel_rfl
theorem n1 : varB (newName ⟨#[86]⟩ 0) = true ∧ varB (newName ⟨#[86]⟩ 1) = true := ⟨by kernel_rfl, by kernel_rfl⟩
theorem ok_of {t : Tm} {m k : Nat} (h0 : t.nm.size ≤ 16) (h1 : (textT t).length = m) (h2 : sizeT t = k) (h3 : m ≤ 1000000) (h4 : k ≤ 1000000) : Ok t := ⟨by unfold maxLen; omega, by omega, by omega⟩
theorem okX : Ok tX := ok_of (m := 1) (k := 1) (by decide) (by kernel_rfl) (by kernel_rfl) (by decide) (by decide)
theorem okP : Ok (p2 nP tX tY) := ok_of (m := 6) (k := 3) (by decide) (by kernel_rfl) (by kernel_rfl) (by decide) (by decide)
theorem okQ : Ok (p2 nP tY tA) := ok_of (m := 6) (k := 3) (by decide) (by kernel_rfl) (by kernel_rfl) (by decide) (by decide)
theorem okF : Ok (p2 ⟨#[102]⟩ tX tA) := ok_of (m := 6) (k := 3) (by decide) (by kernel_rfl) (by kernel_rfl) (by decide) (by decide)
end UnmJ
end Go.Proofs.YtjfgnmmcdgpiiaaGreatDoor
/- The calls of the chapter's examples. Condition: the variable nameEnds holds its bytes. -/
namespace Go.Proofs.YtjfgnmmcdgpiiaaGreatDoor
open Go Go.RowKit
namespace UnmK
open LexM TermM TermI Kit TermN TermU TermL TermE TermF UniK UniM UniA UniC UniD UniE UniF UniO UniL UniP UniQ UniV TermT UnmA UnmE UnmF UnmG UnmH UnmI UnmJ
/-- A term with two arguments. -/
def TwR (n : ByteArray) (l : List Tm) (w : World) (e : Ending) (w' : World) : Prop :=
  ∃ (p : Option Addr) (c : Nat), e = .returned (.agg #[.string n, .slice p 2 c]) ∧ SlIn (· < w'.heap.size) w' l (.slice p 2 c) ∧ Below w.heap.size w w'
set_option maxRecDepth 100000 in
set_option maxHeartbeats 800000 in
theorem func2_any (n : ByteArray) (a b : Tm) (B : Nat) (w : World) (pa pb : Option Addr) (ca cb : Nat) (hB : B ≤ w.heap.size) (ha : SlIn (· < B) w a.args (.slice pa a.args.length ca)) (hb : SlIn (· < B) w b.args (.slice pb b.args.length cb)) (hna : a.nm.size ≤ maxLen) (hnb : b.nm.size ≤ maxLen) :
    Calls Tryz.prog 37 #[.string n, .agg #[.string a.nm, .slice pa a.args.length ca], .agg #[.string b.nm, .slice pb b.args.length cb]] w (TwR n [a, b] w) := by
  obtain ⟨W3, hW3⟩ : ∃ W3, W3 = ((w.alloc (.cells #[.string a.nm, .slice pa a.args.length ca] 27)).alloc (.cells #[.string b.nm, .slice pb b.args.length cb] 27)).alloc (.cells #[.string ⟨#[]⟩, .slice none 0 0] 27) := ⟨_, rfl⟩
  have B3 : Hid (Below w.heap.size w W3) := Lib.hid (by rw [hW3]; exact next0 (next0 (below_alloc _ _) (below_alloc _ _)) (below_alloc _ _))
  have H3 : Hid (Has W3 w.heap.size #[.string a.nm, .slice pa a.args.length ca]) := Lib.hid (by rw [hW3]; exact ((Has.new w _ _).alloc _).alloc _)
  have T3 : Hid (Has W3 (w.heap.size + 1) #[.string b.nm, .slice pb b.args.length cb]) := Lib.hid (by rw [hW3]; exact (Has.new1 w _ _ _).alloc _)
  have E3 : Hid (Has W3 (w.heap.size + 1 + 1) #[.string ⟨#[]⟩, .slice none 0 0]) := Lib.hid (by rw [hW3]; exact Has.new2 w _ _ _ _)
  obtain ⟨W4, hW4⟩ : ∃ W4, W4 = W3.alloc (.cells #[.string a.nm, .slice pa a.args.length ca, .string b.nm, .slice pb b.args.length cb] 27) := ⟨_, rfl⟩
  have B4 : Hid (Below w.heap.size w W4) := Lib.hid (by rw [hW4]; exact next0 B3.out (below_alloc _ _))
  have hs3 : w.heap.size + 3 ≤ W3.heap.size := by rw [hW3]; simp
  have hs4 : W3.heap.size + 1 = W4.heap.size := by rw [hW4]; simp
  have N4 : Hid (Has W4 W3.heap.size #[.string a.nm, .slice pa a.args.length ca, .string b.nm, .slice pb b.args.length cb]) := Lib.hid (by rw [hW4]; exact Has.new _ _ _)
  have E4 : Hid (Has W4 (w.heap.size + 1 + 1) #[.string ⟨#[]⟩, .slice none 0 0]) := Lib.hid (by rw [hW4]; exact E3.out.alloc _)
  obtain ⟨W5, hW5⟩ : ∃ W5, W5 = (W4.setCell ⟨w.heap.size + 1 + 1, 0, none⟩ (.string n)).setCell ⟨w.heap.size + 1 + 1, 1, none⟩ (.slice (some ⟨W3.heap.size, 0, none⟩) 2 2) := ⟨_, rfl⟩
  have B5 : Hid (Below w.heap.size w W5) := Lib.hid (by rw [hW5]; exact (B4.out.setCell (p := ⟨w.heap.size + 1 + 1, 0, none⟩) (by show w.heap.size ≤ w.heap.size + 1 + 1; omega) _).setCell (p := ⟨w.heap.size + 1 + 1, 1, none⟩) (by show w.heap.size ≤ w.heap.size + 1 + 1; omega) _)
  have N5 : Has W5 W3.heap.size #[.string a.nm, .slice pa a.args.length ca, .string b.nm, .slice pb b.args.length cb] := by
    rw [hW5]
    exact (N4.out.far (p := ⟨w.heap.size + 1 + 1, 0, none⟩) (by show W3.heap.size ≠ w.heap.size + 1 + 1; omega) _).far (p := ⟨w.heap.size + 1 + 1, 1, none⟩) (by show W3.heap.size ≠ w.heap.size + 1 + 1; omega) _
  have hs5 : W4.heap.size = W5.heap.size := by rw [hW5]; simp [World.setCell]
  have SL := Lib.hid (TermH.slin_of (B := B) (B' := W5.heap.size) (cap := 2) (L := [(a, .slice pa a.args.length ca), (b, .slice pb b.args.length cb)]) (by omega) (by have := B5.out.size; omega) (Nat.le_refl _) (by unfold maxLen; simp) N5 (fun x hx => by
    rcases List.mem_cons.1 hx with rfl | hx
    · exact ⟨ha.deep B5.out hB, hna⟩
    · obtain rfl := List.mem_singleton.1 hx
      exact ⟨hb.deep B5.out hB, hnb⟩))
  dsimp only [List.map, List.length] at SL
  obtain ⟨e1, e2, e3, e4, e5⟩ := E4.out.two
  have r1 : W5.cell? ⟨w.heap.size + 1 + 1, 0, none⟩ = some (.string n) := by rw [hW5]; exact (((E4.out.set 0 (.string n)).set 1 _).cell 0)
  have r2 : W5.cell? ⟨w.heap.size + 1 + 1, 1, none⟩ = some (.slice (some ⟨W3.heap.size, 0, none⟩) 2 2) := by rw [hW5]; exact (((E4.out.set 0 (.string n)).set 1 _).cell 1)
  clear ha hb hna hnb N4 N5 E4 E3 B4
  obtain ⟨y1, y2, _⟩ := H3.out.two
  obtain ⟨z1, z2, _⟩ := T3.out.two
  unfold TwR
  have HL : Hid ([a, b] = [a, b]) := Lib.hid rfl
  generalize [a, b] = l at *
  generalize a.nm = an at *
  generalize a.args.length = al at *
  generalize b.nm = bn at *
  generalize b.args.length = bl at *
  clear HL
  go_enter Tryz.func37, Tryz.ntmps37
  go_upto_region 1 with fail
  rw [← hW3]
  clear hW3
  rw [hW4] at e1 e2 e3 e4
  go_wp2_with fail
  rw [← hW4, ← hW5]
  refine bodyPost_ret (v := .agg #[.string n, .slice (some ⟨W3.heap.size, 0, none⟩) 2 2]) (by simp [results, Tryz.results37, go_sem, r1, r2]) rfl ?_
  exact ⟨_, _, rfl, SL.out, B5.out⟩
/-! ### The examples -/
theorem z1 : sizeT (p2 nP tX tY) = 3 := by kernel_rfl
theorem z2 : sizeT (p2 nP tY tA) = 3 := by kernel_rfl
theorem z3 : sizeT tX = 1 := by kernel_rfl
theorem z4 : sizeT (p2 ⟨#[102]⟩ tX tA) = 3 := by kernel_rfl
theorem z5 : sizeT (p2 nP tA tA) = 3 := by kernel_rfl
theorem c_u1 (w : World) (hw : Wd w) (p q : Option Addr) (c d : Nat) (h1 : SlIn (· < w.heap.size) w [tX, tY] (.slice p 2 c)) (h2 : SlIn (· < w.heap.size) w [tY, tA] (.slice q 2 d)) :
    Calls Tryz.prog 29 #[.agg #[.string ⟨#[112]⟩, .slice p 2 c], .agg #[.string ⟨#[112]⟩, .slice q 2 d]] w fun e w' => ∃ v : Value, e = .returned (.tuple #[v, .bool true]) ∧ SIn (· < w'.heap.size) w' both v ∧ Below w.heap.size w w' := by
  have := unify_any sortc 9 (p2 nP tX tY) (p2 nP tY tA) (some both) u1 okP okQ (by rw [z1, z2]; decide) (len_le l1 (by decide)) w.heap.size w (.slice p 2 c) (.slice q 2 d) hw hw.1 (Nat.le_refl _) h1 h2
  refine this.mono ?_
  rintro e w' ⟨v, f, rfl, ht, hf, hb⟩
  cases f
  · cases (hf rfl).1
  · obtain ⟨s', e1, h⟩ := ht rfl
    cases e1
    exact ⟨v, rfl, h, hb⟩
theorem c_u2 (w : World) (hw : Wd w) (q : Option Addr) (d : Nat) (h2 : SlIn (· < w.heap.size) w [tX, tA] (.slice q 2 d)) :
    Calls Tryz.prog 29 #[.agg #[.string ⟨#[88]⟩, .slice none 0 0], .agg #[.string ⟨#[102]⟩, .slice q 2 d]] w fun e w' => e = .returned (.tuple #[.slice none 0 0, .bool false]) ∧ Below w.heap.size w w' := by
  have := unify_any sortc 9 tX (p2 ⟨#[102]⟩ tX tA) none u2 okX okF (by rw [z3, z4]; decide) (len_le l2 (by decide)) w.heap.size w (.slice none 0 0) (.slice q 2 d) hw hw.1 (Nat.le_refl _) (SlIn.none _ _) h2
  refine this.mono ?_
  rintro e w' ⟨v, f, rfl, ht, hf, hb⟩
  cases f
  · obtain ⟨_, rfl⟩ := hf rfl
    exact ⟨rfl, hb⟩
  · obtain ⟨s', e1, h⟩ := ht rfl
    cases e1
theorem c_m (w : World) (p q : Option Addr) (c d : Nat) (h1 : SlIn (· < w.heap.size) w [tX, tY] (.slice p 2 c)) (h2 : SlIn (· < w.heap.size) w [tA, tA] (.slice q 2 d)) :
    Calls Tryz.prog 26 #[.agg #[.string ⟨#[112]⟩, .slice p 2 c], .agg #[.string ⟨#[112]⟩, .slice q 2 d], .slice none 0 0] w fun e w' => ∃ v : Value, e = .returned (.tuple #[v, .bool true]) ∧ SIn (· < w'.heap.size) w' both v ∧ Below w.heap.size w w' := by
  have := match_any (p2 nP tX tY) (p2 nP tA tA) [] (by rw [z5]; decide) (fun y hy => by cases hy) w.heap.size w (.slice none 0 0) (.slice p 2 c) (.slice q 2 d) (Nat.le_refl _) (SIn.nil _ _) h1 h2 (by decide) (by decide)
  rw [m1] at this
  refine this.mono ?_
  rintro e w' ⟨v, f, rfl, ht, hf, hb⟩
  cases f
  · cases (hf rfl).1
  · obtain ⟨s', e1, h⟩ := ht rfl
    cases e1
    exact ⟨v, rfl, h, hb⟩
theorem d2 : vldS [(⟨#[88]⟩, tY), (⟨#[89]⟩, tA)] = true := by kernel_rfl
theorem c_a (w : World) (sv : Value) (p : Option Addr) (c : Nat) (hs : SIn (· < w.heap.size) w [(⟨#[88]⟩, tY), (⟨#[89]⟩, tA)] sv) (h1 : SlIn (· < w.heap.size) w [tX, tY] (.slice p 2 c)) :
    Calls Tryz.prog 20 #[sv, .agg #[.string ⟨#[112]⟩, .slice p 2 c]] w (TwR ⟨#[112]⟩ [tY, tA] w) := by
  have := apply_any [(⟨#[88]⟩, tY), (⟨#[89]⟩, tA)] (vld_srt d2).1 ⟨by decide, fun y hy => by
    rcases List.mem_cons.1 hy with rfl | hy
    · have e2 : sizeT tY = 1 := by kernel_rfl
      show sizeT tY ≤ _
      omega
    · obtain rfl := List.mem_singleton.1 hy
      have e2 : sizeT tA = 1 := by kernel_rfl
      show sizeT tA ≤ _
      omega⟩ (p2 nP tX tY) w.heap.size w sv (.slice p 2 c) (Nat.le_refl _) hs h1 (by decide) (by rw [z1]; decide)
  rw [a1] at this
  refine this.mono ?_
  rintro e w' ⟨q, d, rfl, h, _, hb⟩
  exact ⟨q, d, rfl, h.weaken fun b hb => hb.2, hb⟩
theorem c_r (w : World) (p : Option Addr) (c : Nat) (h1 : SlIn (· < w.heap.size) w [tX, tY] (.slice p 2 c)) :
    Calls Tryz.prog 33 #[.agg #[.string ⟨#[112]⟩, .slice p 2 c, .slice none 0 0], .string ⟨#[86]⟩] w fun e w' => ∃ (q : Option Addr) (d : Nat), e = .returned (.tuple #[.agg #[.string ⟨#[112]⟩, .slice q 2 d, .slice none 0 0], .bool true]) ∧ SlIn (· < w'.heap.size) w' [.mk ⟨#[86, 49]⟩ [], .mk ⟨#[86, 50]⟩ []] (.slice q 2 d) ∧ Below w.heap.size w w' := by
  have := rename_nil (p2 nP tX tY) ⟨#[86]⟩ w.heap.size w (.slice p 2 c) (Nat.le_refl _) h1 (by decide) (by rw [z1]; decide) (by rw [v3]; decide) (fun k hk => by
    rw [v3] at hk
    have hk2 : k < 2 := hk
    match k, hk2 with
    | 0, _ => exact n1.1
    | 1, _ => exact n1.2)
  rw [v3] at this
  rw [show ([⟨#[88]⟩, ⟨#[89]⟩] : List ByteArray).length = 2 from rfl, r1] at this
  refine this.mono ?_
  rintro e w' ⟨q, d, rfl, h, _, hb⟩
  exact ⟨q, d, rfl, h.weaken fun b hb => hb.2, hb⟩
end UnmK
end Go.Proofs.YtjfgnmmcdgpiiaaGreatDoor
/- awake: the chapter's examples; made by genunml.py. Condition: the variable nameEnds holds its bytes. -/
namespace Go.Proofs.YtjfgnmmcdgpiiaaGreatDoor
open Go Go.RowKit
namespace UnmL
open LexM TermM TermI Kit TermN TermU TermL TermE TermF UniK UniM UniA UniC UniD UniE UniF UniO UniL UniP UniQ UniV TermT UnmA UnmE UnmF UnmG UnmH UnmI UnmJ UnmK
theorem c_f (n a b : ByteArray) (ha : a.size ≤ maxLen) (hb : b.size ≤ maxLen) (w : World) : Calls Tryz.prog 37 #[.string n, .agg #[.string a, .slice none 0 0], .agg #[.string b, .slice none 0 0]] w (TwR n [.mk a [], .mk b []] w) :=
  func2_any n (.mk a []) (.mk b []) 0 w none none 0 0 (Nat.zero_le _) (SlIn.none _ _) (SlIn.none _ _) ha hb
theorem sin_has {ok : Nat → Prop} {w : World} {g : Nat} (L : List (Bd × Value)) (hH : Has w g (KB.flat L).toArray) (hI : ∀ x ∈ L, KB.inn ok w x) (hg : ok g) (hl : L.length ≤ maxLen) : SIn ok w (L.map (·.1)) (.slice (some ⟨g, 0, none⟩) L.length L.length) := by
  refine ⟨L, rfl, some ⟨g, 0, none⟩, L.length, rfl, Nat.le_refl _, hl, hI, fun _ => ⟨g, 0, rfl, hg, fun i x hx j u hu => ?_⟩⟩
  rw [Nat.zero_add, hH.cell]
  have := flat_get (K := KB) L i x hx j u hu
  simpa using this
theorem sin_two (w : World) (g : Nat) (a b s t : ByteArray) (ha : a.size ≤ maxLen) (hb : b.size ≤ maxLen) (hs : s.size ≤ maxLen) (ht : t.size ≤ maxLen) (hg : g < w.heap.size)
    (hH : Has w g #[.string a, .string s, .slice none 0 0, .string b, .string t, .slice none 0 0]) : SIn (· < w.heap.size) w [(a, .mk s []), (b, .mk t [])] (.slice (some ⟨g, 0, none⟩) 2 2) := by
  refine sin_has [((a, .mk s []), .slice none 0 0), ((b, .mk t []), .slice none 0 0)] hH ?_ hg (by unfold maxLen; simp)
  intro x hx
  rcases List.mem_cons.1 hx with rfl | hx
  · exact ⟨SlIn.none _ _, hs, ha⟩
  · obtain rfl := List.mem_singleton.1 hx
    exact ⟨SlIn.none _ _, ht, hb⟩
theorem c_t (l : List Tm) (n : ByteArray) (_hl : l.length = 2) (w : World) (p q : Option Addr) (c d : Nat) (h1 : SlIn (· < w.heap.size) w l (.slice p 2 c)) (h2 : SlIn (· < w.heap.size) w l (.slice q 2 d)) :
    Calls Tryz.prog 18 #[.agg #[.string n, .slice p 2 c], .agg #[.string n, .slice q 2 d]] w fun e w' => e = .returned (.bool true) ∧ Gr w w' :=
  TermEq.term_any (.mk n l) true w.heap.size w _ (.mk n l) _ (by simp) (Nat.le_refl _) h1 h2
set_option maxRecDepth 100000 in
set_option maxHeartbeats 3200000 in
theorem awake_any (w : World) (hw : Wd w) : Calls Tryz.prog 13 #[] w fun e w' => e = .returned (.bool true) ∧ Below w.heap.size w w' := by
  obtain ⟨W3, hW3⟩ : ∃ W3, W3 = ((w.alloc (.cells #[.string ⟨#[97]⟩, .slice none 0 0] 27)).alloc (.cells #[.string ⟨#[88]⟩, .slice none 0 0] 27)).alloc (.cells #[.string ⟨#[89]⟩, .slice none 0 0] 27) := ⟨_, rfl⟩
  have B3 : Hid (Below w.heap.size w W3) := Lib.hid (by rw [hW3]; exact next0 (next0 (below_alloc _ _) (below_alloc _ _)) (below_alloc _ _))
  have A3 : Hid (Has W3 w.heap.size #[.string ⟨#[97]⟩, .slice none 0 0]) := Lib.hid (by rw [hW3]; exact ((Has.new w _ _).alloc _).alloc _)
  have X3 : Hid (Has W3 (w.heap.size + 1) #[.string ⟨#[88]⟩, .slice none 0 0]) := Lib.hid (by rw [hW3]; exact (Has.new1 w _ _ _).alloc _)
  have Y3 : Hid (Has W3 (w.heap.size + 1 + 1) #[.string ⟨#[89]⟩, .slice none 0 0]) := Lib.hid (by rw [hW3]; exact Has.new2 w _ _ _ _)
  have HWD := Lib.hid (fun w' (k : Below w.heap.size w w') => hw.below k hw.1)
  have F2 := Lib.hid (fun w' => c_f ⟨#[112]⟩ ⟨#[88]⟩ ⟨#[89]⟩ (by decide) (by decide) w')
  unfold TwR at F2
  clear hw
  obtain ⟨x1, x2, _⟩ := X3.out.two
  obtain ⟨y1, y2, _⟩ := Y3.out.two
  go_enter Tryz.func13, Tryz.ntmps13
  go_upto_region 2 with fail
  rw [← hW3]
  clear hW3
  go_wp2_with fail
  refine (F2.out _).mono ?_
  rintro e w4 ⟨pP, cP, rfl, s4, b4⟩
  obtain ⟨W5, hW5⟩ : ∃ W5, W5 = w4.alloc (.cells #[.string ⟨#[112]⟩, .slice pP 2 cP] 27) := ⟨_, rfl⟩
  have B5 : Hid (Below W3.heap.size W3 W5) := Lib.hid (by rw [hW5]; exact next0 b4 (below_alloc _ _))
  have P5 : Hid (Has W5 w4.heap.size #[.string ⟨#[112]⟩, .slice pP 2 cP]) := Lib.hid (by rw [hW5]; exact Has.new _ _ _)
  have SP := Lib.hid (fun w' (k : Below W5.heap.size W5 w') => show SlIn (· < w'.heap.size) w' [tX, tY] (.slice pP 2 cP) from by
    have k4 : Below w4.heap.size w4 w' := by rw [hW5] at k; exact next0 (below_alloc _ _) k
    exact (s4.deep k4 (Nat.le_refl _)).weaken fun b hb => Nat.lt_of_lt_of_le hb k4.size)
  have BW := Lib.hid (next0 B3.out B5.out)
  have HH5 := Lib.hid (fun w' (k : Below W5.heap.size W5 w') => show w'.cell? ⟨w.heap.size, 0, none⟩ = some (.string ⟨#[97]⟩) ∧ w'.cell? ⟨w.heap.size, 1, none⟩ = some (.slice none 0 0) ∧ w'.cell? ⟨w.heap.size + 1, 0, none⟩ = some (.string ⟨#[88]⟩) ∧ w'.cell? ⟨w.heap.size + 1, 1, none⟩ = some (.slice none 0 0) ∧ w'.cell? ⟨w.heap.size + 1 + 1, 0, none⟩ = some (.string ⟨#[89]⟩) ∧ w'.cell? ⟨w.heap.size + 1 + 1, 1, none⟩ = some (.slice none 0 0) ∧ w'.cell? ⟨w4.heap.size, 0, none⟩ = some (.string ⟨#[112]⟩) ∧ w'.cell? ⟨w4.heap.size, 1, none⟩ = some (.slice pP 2 cP) from by
    have k3 := next0 B5.out k
    obtain ⟨a1, a2, _⟩ := (A3.out.step0 k3).two
    obtain ⟨b1, b2, _⟩ := (X3.out.step0 k3).two
    obtain ⟨c1, c2, _⟩ := (Y3.out.step0 k3).two
    obtain ⟨d1, d2, _⟩ := (P5.out.step0 k).two
    exact ⟨a1, a2, b1, b2, c1, c2, d1, d2⟩)
  have CU1 := Lib.hid (fun w' (k : Below W5.heap.size W5 w') q d h => c_u1 w' (HWD.out w' (next0 BW.out k)) pP q cP d (SP.out w' k) h)
  have CM1 := Lib.hid (fun w' (k : Below W5.heap.size W5 w') q d h => c_m w' pP q cP d (SP.out w' k) h)
  have CU2 := Lib.hid (fun w' (k : Below W5.heap.size W5 w') q d h => c_u2 w' (HWD.out w' (next0 BW.out k)) q d h)
  have CA1 := Lib.hid (fun w' (k : Below W5.heap.size W5 w') sv h => c_a w' sv pP cP h (SP.out w' k))
  have CR1 := Lib.hid (fun w' (k : Below W5.heap.size W5 w') => c_r w' pP cP (SP.out w' k))
  unfold TwR at CA1
  have K2 : Hid (Below W5.heap.size W5 W5) := Lib.hid (Below.refl _ _)
  clear x1 x2 y1 y2 s4 b4 F2 A3 X3 Y3 P5 B3 B5 HWD SP
  go_upto_region 3 with fail
  rw [← hW5]
  clear hW5
  have F3 := Lib.hid (fun w' => c_f ⟨#[112]⟩ ⟨#[89]⟩ ⟨#[97]⟩ (by decide) (by decide) w')
  unfold TwR at F3
  obtain ⟨x1, x2, x3, x4, x5, x6, x7, x8⟩ := HH5.out _ K2.out
  go_cut [5, 6] (fun s5 s6 wx => s6 = .bool true ∧ Hid (SIn (· < wx.heap.size) wx both s5) ∧ Hid (Below W5.heap.size W5 wx))
  case first =>
    go_region_law (first
      | (go_simp; go_at_call 37; (with_reducible refine (F3.out _).mono ?_); rintro e w6 ⟨q6, d6, rfl, s6, b6⟩; have K6 : Hid (Below W5.heap.size W5 w6) := Lib.hid (by first | exact next0 K2.out b6 | exact next0 K2.out.drew b6 | exact next0 (below_drewN K2.out _) b6); have S6 := Lib.hid s6; clear s6 b6 x1 x2 x3 x4 x5 x6 x7 x8; obtain ⟨x1, x2, x3, x4, x5, x6, x7, x8⟩ := HH5.out _ K6.out)
      | (go_simp; go_at_call 29; (with_reducible refine (CU1.out _ (by first | exact K6.out | exact K6.out.drew | exact below_drewN K6.out _) _ _ (by first | exact S6.out | exact S6.out.frame (fun _ _ _ => rfl))).mono ?_); rintro e w7 ⟨v7, rfl, h7, b7⟩; have K7 : Hid (Below W5.heap.size W5 w7) := Lib.hid (by first | exact next0 K6.out b7 | exact next0 K6.out.drew b7 | exact next0 (below_drewN K6.out _) b7); have S7 := Lib.hid h7; clear h7 b7))
    all_goals
      go_wp2_with fail
      go_meet
      exact ⟨rfl, S7, K7⟩
  case rest =>
    obtain ⟨rfl, SA, K3⟩ := hcut
    obtain ⟨wa, hwa⟩ : ∃ wa, wa = wc := ⟨_, rfl⟩
    rw [← hwa] at SA K3 ⊢
    clear hwa
    clear x1 x2 x3 x4 x5 x6 x7 x8 F3 K2
    have F4 := Lib.hid (fun w' => c_f ⟨#[112]⟩ ⟨#[97]⟩ ⟨#[97]⟩ (by decide) (by decide) w')
    unfold TwR at F4
    go_upto_region 4 with fail
    obtain ⟨x1, x2, x3, x4, x5, x6, x7, x8⟩ := HH5.out _ K3.out
    go_cut [7, 8] (fun s7 s8 wx => s8 = .bool true ∧ Hid (SIn (· < wx.heap.size) wx both s7) ∧ Hid (Below wa.heap.size wa wx) ∧ Hid (Below W5.heap.size W5 wx))
    case first =>
      go_region_law (first
        | (go_simp; go_at_call 37; (with_reducible refine (F4.out _).mono ?_); rintro e w6 ⟨q6, d6, rfl, s6, b6⟩; have K6 : Hid (Below W5.heap.size W5 w6) := Lib.hid (by first | exact next0 K3.out b6 | exact next0 K3.out.drew b6 | exact next0 (below_drewN K3.out _) b6); have R6 : Hid (Below wa.heap.size wa w6) := Lib.hid (by first | exact b6 | exact next0 (Below.refl _ _).drew b6 | exact next0 (below_drewN (Below.refl _ _) _) b6); have S6 := Lib.hid s6; clear s6 b6 x1 x2 x3 x4 x5 x6 x7 x8; obtain ⟨x1, x2, x3, x4, x5, x6, x7, x8⟩ := HH5.out _ K6.out)
        | (go_simp; go_at_call 26; (with_reducible refine (CM1.out _ (by first | exact K6.out | exact K6.out.drew | exact below_drewN K6.out _) _ _ (by first | exact S6.out | exact S6.out.frame (fun _ _ _ => rfl))).mono ?_); rintro e w7 ⟨v7, rfl, h7, b7⟩; have K7 : Hid (Below W5.heap.size W5 w7) := Lib.hid (by first | exact next0 K6.out b7 | exact next0 K6.out.drew b7 | exact next0 (below_drewN K6.out _) b7); have R7 : Hid (Below wa.heap.size wa w7) := Lib.hid (by first | exact next0 R6.out b7 | exact next0 R6.out.drew b7 | exact next0 (below_drewN R6.out _) b7); have S7 := Lib.hid h7; clear h7 b7))
      all_goals
        go_wp2_with fail
        go_meet
        exact ⟨rfl, S7, R7, K7⟩
    case rest =>
      obtain ⟨rfl, SB, R4, K4⟩ := hcut
      obtain ⟨wb, hwb⟩ : ∃ wb, wb = wc := ⟨_, rfl⟩
      rw [← hwb] at SB R4 K4 ⊢
      clear hwb
      clear x1 x2 x3 x4 x5 x6 x7 x8 F4
      have F5 := Lib.hid (fun w' => c_f ⟨#[102]⟩ ⟨#[88]⟩ ⟨#[97]⟩ (by decide) (by decide) w')
      unfold TwR at F5
      go_upto_region 5 with fail
      obtain ⟨x1, x2, x3, x4, x5, x6, x7, x8⟩ := HH5.out _ K4.out
      go_cut [9, 10] (fun s9 s10 wx => s10 = .bool false ∧ Hid (Below wb.heap.size wb wx) ∧ Hid (Below W5.heap.size W5 wx))
      case first =>
        go_region_law (first
          | (go_simp; go_at_call 37; (with_reducible refine (F5.out _).mono ?_); rintro e w6 ⟨q6, d6, rfl, s6, b6⟩; have K6 : Hid (Below W5.heap.size W5 w6) := Lib.hid (by first | exact next0 K4.out b6 | exact next0 K4.out.drew b6 | exact next0 (below_drewN K4.out _) b6); have R6 : Hid (Below wb.heap.size wb w6) := Lib.hid (by first | exact b6 | exact next0 (Below.refl _ _).drew b6 | exact next0 (below_drewN (Below.refl _ _) _) b6); have S6 := Lib.hid s6; clear s6 b6 x1 x2 x3 x4 x5 x6 x7 x8; obtain ⟨x1, x2, x3, x4, x5, x6, x7, x8⟩ := HH5.out _ K6.out)
          | (go_simp; go_at_call 29; (with_reducible refine (CU2.out _ (by first | exact K6.out | exact K6.out.drew | exact below_drewN K6.out _) _ _ (by first | exact S6.out | exact S6.out.frame (fun _ _ _ => rfl))).mono ?_); rintro e w7 ⟨rfl, b7⟩; have K7 : Hid (Below W5.heap.size W5 w7) := Lib.hid (by first | exact next0 K6.out b7 | exact next0 K6.out.drew b7 | exact next0 (below_drewN K6.out _) b7); have R7 : Hid (Below wb.heap.size wb w7) := Lib.hid (by first | exact next0 R6.out b7 | exact next0 R6.out.drew b7 | exact next0 (below_drewN R6.out _) b7); clear b7))
        all_goals
          go_wp2_with fail
          go_meet
          exact ⟨rfl, R7, K7⟩
      case rest =>
        obtain ⟨rfl, R5, K5⟩ := hcut
        obtain ⟨wd, hwd⟩ : ∃ wd, wd = wc := ⟨_, rfl⟩
        rw [← hwd] at R5 K5 ⊢
        clear hwd
        clear x1 x2 x3 x4 x5 x6 x7 x8 F5 CU1 CU2 CM1
        have RA5 := Lib.hid (next0 R4.out R5.out)
        obtain ⟨W8, hW8⟩ : ∃ W8, W8 = wd.alloc (.cells #[.string ⟨#[88]⟩, .string ⟨#[89]⟩, .slice none 0 0, .string ⟨#[89]⟩, .string ⟨#[97]⟩, .slice none 0 0] 52) := ⟨_, rfl⟩
        have D8 : Hid (Below wd.heap.size wd W8) := Lib.hid (by rw [hW8]; exact below_alloc _ _)
        have hs8 : wd.heap.size < W8.heap.size := by rw [hW8]; simp
        have CA2 := Lib.hid (CA1.out W8 (next0 K5.out D8.out) (.slice (some ⟨wd.heap.size, 0, none⟩) 2 2) (sin_two W8 wd.heap.size ⟨#[88]⟩ ⟨#[89]⟩ ⟨#[89]⟩ ⟨#[97]⟩ (by decide) (by decide) (by decide) (by decide) hs8 (by rw [hW8]; exact Has.new _ _ _)))
        obtain ⟨x1, x2, x3, x4, x5, x6, x7, x8⟩ := HH5.out _ K5.out
        have z7 : W8.cell? ⟨w4.heap.size, 0, none⟩ = some (.string ⟨#[112]⟩) := (HH5.out _ (next0 K5.out D8.out)).2.2.2.2.2.2.1
        have z8 : W8.cell? ⟨w4.heap.size, 1, none⟩ = some (.slice pP 2 cP) := (HH5.out _ (next0 K5.out D8.out)).2.2.2.2.2.2.2
        rw [hW8] at z7 z8
        go_wp2_with fail
        rw [← hW8]
        clear hW8 CA1 z7 z8 x1 x2 x3 x4 x5 x6 x7 x8
        refine CA2.out.mono ?_
        rintro e w9 ⟨pT, cT, rfl, sT, b9⟩
        obtain ⟨W10, hW10⟩ : ∃ W10, W10 = w9.alloc (.cells #[.string ⟨#[112]⟩, .slice pT 2 cT] 27) := ⟨_, rfl⟩
        have D10 : Hid (Below wd.heap.size wd W10) := Lib.hid (by rw [hW10]; exact next0 (next0 D8.out b9) (below_alloc _ _))
        have T10 : Hid (Has W10 w9.heap.size #[.string ⟨#[112]⟩, .slice pT 2 cT]) := Lib.hid (by rw [hW10]; exact Has.new _ _ _)
        have ST := Lib.hid (fun w' (k : Below W10.heap.size W10 w') => show SlIn (· < w'.heap.size) w' [tY, tA] (.slice pT 2 cT) from by
          have k4 : Below w9.heap.size w9 w' := by rw [hW10] at k; exact next0 (below_alloc _ _) k
          exact (sT.deep k4 (Nat.le_refl _)).weaken fun b hb => Nat.lt_of_lt_of_le hb k4.size)
        obtain ⟨x1, x2, x3, x4, x5, x6, x7, x8⟩ := HH5.out _ (next0 K5.out D10.out)
        clear sT b9 CA2 D8
        go_upto_region 7 with fail
        rw [← hW10]
        clear hW10
        obtain ⟨W11, hW11⟩ : ∃ W11, W11 = W10.alloc (.cells #[.string ⟨#[88]⟩, .string ⟨#[97]⟩, .slice none 0 0, .string ⟨#[89]⟩, .string ⟨#[97]⟩, .slice none 0 0] 52) := ⟨_, rfl⟩
        have D11 : Hid (Below W10.heap.size W10 W11) := Lib.hid (by rw [hW11]; exact below_alloc _ _)
        have hs11 : W10.heap.size < W11.heap.size := by rw [hW11]; simp
        have SBo := Lib.hid (fun w' (k : Below W11.heap.size W11 w') => sin_two w' W10.heap.size ⟨#[88]⟩ ⟨#[89]⟩ ⟨#[97]⟩ ⟨#[97]⟩ (by decide) (by decide) (by decide) (by decide) (Nat.lt_of_lt_of_le hs11 k.size) (by have h : Has W11 W10.heap.size #[.string ⟨#[88]⟩, .string ⟨#[97]⟩, .slice none 0 0, .string ⟨#[89]⟩, .string ⟨#[97]⟩, .slice none 0 0] := (by rw [hW11]; exact Has.new _ _ _); exact h.step0 k))
        go_upto_region 8 with fail
        rw [← hW11]
        clear hW11 x1 x2 x3 x4 x5 x6 x7 x8
        have K11 := Lib.hid (next0 (next0 K5.out D10.out) D11.out)
        obtain ⟨x1, x2, x3, x4, x5, x6, x7, x8⟩ := HH5.out _ K11.out
        go_wp2_with fail
        refine (CR1.out _ K11.out).mono ?_
        rintro e w12 ⟨pR, cR, rfl, sR, b12⟩
        obtain ⟨W13, hW13⟩ : ∃ W13, W13 = w12.alloc (.cells #[.string ⟨#[112]⟩, .slice pR 2 cR, .slice none 0 0] 34) := ⟨_, rfl⟩
        have D13 : Hid (Below W11.heap.size W11 W13) := Lib.hid (by rw [hW13]; exact next0 b12 (below_alloc _ _))
        have R13 : Hid (Has W13 w12.heap.size #[.string ⟨#[112]⟩, .slice pR 2 cR, .slice none 0 0]) := Lib.hid (by rw [hW13]; exact Has.new _ _ _)
        have SR := Lib.hid (fun w' (k : Below W13.heap.size W13 w') => show SlIn (· < w'.heap.size) w' [.mk ⟨#[86, 49]⟩ [], .mk ⟨#[86, 50]⟩ []] (.slice pR 2 cR) from by
          have k4 : Below w12.heap.size w12 w' := by rw [hW13] at k; exact next0 (below_alloc _ _) k
          exact (sR.deep k4 (Nat.le_refl _)).weaken fun b hb => Nat.lt_of_lt_of_le hb k4.size)
        have KA := Lib.hid (next0 (next0 RA5.out (next0 D10.out D11.out)) D13.out)
        have KB9 := Lib.hid (next0 (next0 R5.out (next0 D10.out D11.out)) D13.out)
        have K13 := Lib.hid (next0 K11.out D13.out)
        have D1013 := Lib.hid (next0 D11.out D13.out)
        clear sR b12 x1 x2 x3 x4 x5 x6 x7 x8 CR1
        go_upto_region 9 with fail
        rw [← hW13]
        clear hW13
        have CS1 := Lib.hid (fun w' (k : Below W13.heap.size W13 w') => same_any both both true (by simp) w'.heap.size w' u5 (.slice (some ⟨W10.heap.size, 0, none⟩) 2 2) (Nat.le_refl _) ((SA.out.deep (next0 KA.out k) (Nat.le_refl _)).wide fun b hb => Nat.lt_of_lt_of_le hb (next0 KA.out k).size) (SBo.out w' (next0 D13.out k)))
        have CS2 := Lib.hid (fun w' (k : Below W13.heap.size W13 w') => same_any both both true (by simp) w'.heap.size w' u7 (.slice (some ⟨W10.heap.size, 0, none⟩) 2 2) (Nat.le_refl _) ((SB.out.deep (next0 KB9.out k) (Nat.le_refl _)).wide fun b hb => Nat.lt_of_lt_of_le hb (next0 KB9.out k).size) (SBo.out w' (next0 D13.out k)))
        have CV1 := Lib.hid (fun w' (k : Below W13.heap.size W13 w') => cvalid_any both w'.heap.size w' (.slice (some ⟨W10.heap.size, 0, none⟩) 2 2) (Nat.le_refl _) (SBo.out w' (next0 D13.out k)))
        rw [d1] at CV1
        have CT1 := Lib.hid (fun w' q d (k : Below W13.heap.size W13 w') h => c_t [tY, tA] ⟨#[112]⟩ rfl w' pT q cT d (ST.out w' (next0 D1013.out k)) h)
        have CT2 := Lib.hid (fun w' q d (k : Below W13.heap.size W13 w') h => c_t [.mk ⟨#[86, 49]⟩ [], .mk ⟨#[86, 50]⟩ []] ⟨#[112]⟩ rfl w' pR q cR d (SR.out w' k) h)
        have F7 := Lib.hid (fun w' => c_f ⟨#[112]⟩ ⟨#[89]⟩ ⟨#[97]⟩ (by decide) (by decide) w')
        have F8 := Lib.hid (fun w' => c_f ⟨#[112]⟩ ⟨#[86, 49]⟩ ⟨#[86, 50]⟩ (by decide) (by decide) w')
        unfold TwR at F7 F8
        have Hb := Lib.hid (fun w' (k : Below W13.heap.size W13 w') => show w'.cell? ⟨w9.heap.size, 0, none⟩ = some (.string ⟨#[112]⟩) ∧ w'.cell? ⟨w9.heap.size, 1, none⟩ = some (.slice pT 2 cT) ∧ w'.cell? ⟨w.heap.size + 1 + 1, 0, none⟩ = some (.string ⟨#[89]⟩) ∧ w'.cell? ⟨w.heap.size + 1 + 1, 1, none⟩ = some (.slice none 0 0) ∧ w'.cell? ⟨w.heap.size, 0, none⟩ = some (.string ⟨#[97]⟩) ∧ w'.cell? ⟨w.heap.size, 1, none⟩ = some (.slice none 0 0) ∧ w'.cell? ⟨w12.heap.size, 0, none⟩ = some (.string ⟨#[112]⟩) ∧ w'.cell? ⟨w12.heap.size, 1, none⟩ = some (.slice pR 2 cR) ∧ Hid (Below W13.heap.size W13 w') from by
          obtain ⟨x1, x2, x3, x4, x5, x6, x7, x8⟩ := HH5.out _ (next0 K13.out k)
          obtain ⟨t1, t2, _⟩ := (T10.out.step0 (next0 D1013.out k)).two
          obtain ⟨r1, r2, r3⟩ := three (R13.out.step0 k)
          exact ⟨t1, t2, x5, x6, x1, x2, r1, r2, Lib.hid k⟩)
        have FIN := Lib.hid (fun w' (k : Below W13.heap.size W13 w') => next0 (next0 BW.out K13.out) k)
        have hs0 := Hb.out _ (Below.refl W13.heap.size W13).drew
        clear SA SB SBo ST SR HH5 T10 R13 RA5 KA KB9 K13 D1013 D13 K11 D11 D10 K5 R5 R4 K4 K3 BW hs11
        refine wp_region_held_drew (S := (fun w' => w'.cell? ⟨w9.heap.size, 0, none⟩ = some (.string ⟨#[112]⟩) ∧ w'.cell? ⟨w9.heap.size, 1, none⟩ = some (.slice pT 2 cT) ∧ w'.cell? ⟨w.heap.size + 1 + 1, 0, none⟩ = some (.string ⟨#[89]⟩) ∧ w'.cell? ⟨w.heap.size + 1 + 1, 1, none⟩ = some (.slice none 0 0) ∧ w'.cell? ⟨w.heap.size, 0, none⟩ = some (.string ⟨#[97]⟩) ∧ w'.cell? ⟨w.heap.size, 1, none⟩ = some (.slice none 0 0) ∧ w'.cell? ⟨w12.heap.size, 0, none⟩ = some (.string ⟨#[112]⟩) ∧ w'.cell? ⟨w12.heap.size, 1, none⟩ = some (.slice pR 2 cR) ∧ Hid (Below W13.heap.size W13 w'))) (by kernel_rfl) hs0 (fun hHeld => ?_)
        refine wpAnyH_take (i := 0) (v := ?_) rfl (by kernel_rfl) (by kernel_rfl) (by kernel_rfl) (fun _ _ _ h => h) (Or.inl ⟨by rfl, ?_⟩) (by assumption) ?_
        rotate_left
        · intro w' hSw; (try dsimp only at hSw); (try simp only [List.getElem_toArray, List.getElem_cons_zero]); go_simp; try with_reducible rfl
        (try simp only [List.getElem_toArray, List.getElem_cons_zero, Act.put, List.setIfInBounds_toArray, List.set_cons_zero, List.set_cons_succ])
        refine wpAnyH_take (i := 1) (v := ?_) rfl (by kernel_rfl) (by kernel_rfl) (by kernel_rfl) (fun _ _ _ h => h) (Or.inl ⟨by rfl, ?_⟩) (by assumption) ?_
        rotate_left
        · intro w' hSw; (try dsimp only at hSw); (try simp only [List.getElem_toArray, List.getElem_cons_zero, List.getElem_cons_succ]); go_simp; try with_reducible rfl
        (try simp only [List.getElem_toArray, List.getElem_cons_zero, List.getElem_cons_succ, Act.put, List.setIfInBounds_toArray, List.set_cons_zero, List.set_cons_succ])
        refine wpAnyH_take (i := 2) (v := ?_) rfl (by kernel_rfl) (by kernel_rfl) (by kernel_rfl) (fun _ _ _ h => h) (Or.inl ⟨by rfl, ?_⟩) (by assumption) ?_
        rotate_left
        · intro w' hSw; (try dsimp only at hSw); (try simp only [List.getElem_toArray, List.getElem_cons_zero, List.getElem_cons_succ]); go_simp; try with_reducible rfl
        (try simp only [List.getElem_toArray, List.getElem_cons_zero, List.getElem_cons_succ, Act.put, List.setIfInBounds_toArray, List.set_cons_zero, List.set_cons_succ])
        refine wpAnyH_take (i := 3) (v := ?_) rfl (by kernel_rfl) (by kernel_rfl) (by kernel_rfl) (fun _ _ _ h => h) (Or.inl ⟨by rfl, ?_⟩) (by assumption) ?_
        rotate_left
        · intro w' hSw; (try dsimp only at hSw); (try simp only [List.getElem_toArray, List.getElem_cons_zero, List.getElem_cons_succ]); go_simp; try with_reducible rfl
        (try simp only [List.getElem_toArray, List.getElem_cons_zero, List.getElem_cons_succ, Act.put, List.setIfInBounds_toArray, List.set_cons_zero, List.set_cons_succ])
        refine wpAnyH_ready (rs := [4]) (by kernel_rfl) (by simp) ?_
        refine AllReadyH.cons rfl (fun K hK => ?_) AllReadyH.nil
        go_simp
        (try go_split_ands)
        go_at_call 28
        (try go_split_ands)
        (with_reducible refine (CS1.out _ (by repeat (first | (with_reducible exact Hid.out (by assumption)) | (with_reducible exact Below.refl _ _) | (with_reducible refine Below.drew ?_)))).mono ?_)
        rintro e w' ⟨rfl, q0⟩
        (have qg : Below W13.heap.size W13 w' := by (refine next0 ?_ q0.1; repeat (first | (with_reducible exact Hid.out (by assumption)) | (with_reducible exact Below.refl _ _) | (with_reducible refine Below.drew ?_))))
        clear q0
        refine hK.out _ _ (Hb.out _ qg) (fun hHeld => ?_)
        clear hK K
        (try simp only [List.getElem_toArray, List.getElem_cons_zero, List.getElem_cons_succ, Act.put, List.setIfInBounds_toArray, List.set_cons_zero, List.set_cons_succ])
        refine wpAnyH_take (i := 5) (v := ?_) rfl (by kernel_rfl) (by kernel_rfl) (by kernel_rfl) (fun _ _ _ h => h) (Or.inl ⟨by rfl, ?_⟩) (by assumption) ?_
        rotate_left
        · intro w' hSw; (try dsimp only at hSw); (try simp only [List.getElem_toArray, List.getElem_cons_zero, List.getElem_cons_succ]); go_simp; try with_reducible rfl
        (try simp only [List.getElem_toArray, List.getElem_cons_zero, List.getElem_cons_succ, Act.put, List.setIfInBounds_toArray, List.set_cons_zero, List.set_cons_succ])
        refine wpAnyH_take (i := 6) (v := ?_) rfl (by kernel_rfl) (by kernel_rfl) (by kernel_rfl) (fun _ _ _ h => h) (Or.inl ⟨by rfl, ?_⟩) (by assumption) ?_
        rotate_left
        · intro w' hSw; (try dsimp only at hSw); (try simp only [List.getElem_toArray, List.getElem_cons_zero, List.getElem_cons_succ]); go_simp; try with_reducible rfl
        (try simp only [List.getElem_toArray, List.getElem_cons_zero, List.getElem_cons_succ, Act.put, List.setIfInBounds_toArray, List.set_cons_zero, List.set_cons_succ])
        refine wpAnyH_take (i := 7) (v := ?_) rfl (by kernel_rfl) (by kernel_rfl) (by kernel_rfl) (fun _ _ _ h => h) (Or.inl ⟨by rfl, ?_⟩) (by assumption) ?_
        rotate_left
        · intro w' hSw; (try dsimp only at hSw); (try simp only [List.getElem_toArray, List.getElem_cons_zero, List.getElem_cons_succ]); go_simp; try with_reducible rfl
        (try simp only [List.getElem_toArray, List.getElem_cons_zero, List.getElem_cons_succ, Act.put, List.setIfInBounds_toArray, List.set_cons_zero, List.set_cons_succ])
        refine wpAnyH_take (i := 8) (v := ?_) rfl (by kernel_rfl) (by kernel_rfl) (by kernel_rfl) (fun _ _ _ h => h) (Or.inl ⟨by rfl, ?_⟩) (by assumption) ?_
        rotate_left
        · intro w' hSw; (try dsimp only at hSw); (try simp only [List.getElem_toArray, List.getElem_cons_zero, List.getElem_cons_succ]); go_simp; try with_reducible rfl
        (try simp only [List.getElem_toArray, List.getElem_cons_zero, List.getElem_cons_succ, Act.put, List.setIfInBounds_toArray, List.set_cons_zero, List.set_cons_succ])
        refine wpAnyH_take (i := 9) (v := ?_) rfl (by kernel_rfl) (by kernel_rfl) (by kernel_rfl) (fun _ _ _ h => h) (Or.inl ⟨by rfl, ?_⟩) (by assumption) ?_
        rotate_left
        · intro w' hSw; (try dsimp only at hSw); (try simp only [List.getElem_toArray, List.getElem_cons_zero, List.getElem_cons_succ]); go_simp; try with_reducible rfl
        (try simp only [List.getElem_toArray, List.getElem_cons_zero, List.getElem_cons_succ, Act.put, List.setIfInBounds_toArray, List.set_cons_zero, List.set_cons_succ])
        refine wpAnyH_take (i := 10) (v := ?_) rfl (by kernel_rfl) (by kernel_rfl) (by kernel_rfl) (fun _ _ _ h => h) (Or.inl ⟨by rfl, ?_⟩) (by assumption) ?_
        rotate_left
        · intro w' hSw; (try dsimp only at hSw); (try simp only [List.getElem_toArray, List.getElem_cons_zero, List.getElem_cons_succ]); go_simp; try with_reducible rfl
        (try simp only [List.getElem_toArray, List.getElem_cons_zero, List.getElem_cons_succ, Act.put, List.setIfInBounds_toArray, List.set_cons_zero, List.set_cons_succ])
        refine wpAnyH_take (i := 11) (v := ?_) rfl (by kernel_rfl) (by kernel_rfl) (by kernel_rfl) (fun _ _ _ h => h) (Or.inl ⟨by rfl, ?_⟩) (by assumption) ?_
        rotate_left
        · intro w' hSw; (try dsimp only at hSw); (try simp only [List.getElem_toArray, List.getElem_cons_zero, List.getElem_cons_succ]); go_simp; try with_reducible rfl
        (try simp only [List.getElem_toArray, List.getElem_cons_zero, List.getElem_cons_succ, Act.put, List.setIfInBounds_toArray, List.set_cons_zero, List.set_cons_succ])
        refine wpAnyH_ready (rs := [12]) (by kernel_rfl) (by simp) ?_
        refine AllReadyH.cons rfl (fun K hK => ?_) AllReadyH.nil
        go_simp
        (try go_split_ands)
        go_at_call 28
        (try go_split_ands)
        (with_reducible refine (CS2.out _ (by repeat (first | (with_reducible exact Hid.out (by assumption)) | (with_reducible exact Below.refl _ _) | (with_reducible refine Below.drew ?_)))).mono ?_)
        rintro e w' ⟨rfl, q0⟩
        (have qg : Below W13.heap.size W13 w' := by (refine next0 ?_ q0.1; repeat (first | (with_reducible exact Hid.out (by assumption)) | (with_reducible exact Below.refl _ _) | (with_reducible refine Below.drew ?_))))
        clear q0
        refine hK.out _ _ (Hb.out _ qg) (fun hHeld => ?_)
        clear hK K
        (try simp only [List.getElem_toArray, List.getElem_cons_zero, List.getElem_cons_succ, Act.put, List.setIfInBounds_toArray, List.set_cons_zero, List.set_cons_succ])
        refine wpAnyH_take (i := 13) (v := ?_) rfl (by kernel_rfl) (by kernel_rfl) (by kernel_rfl) (fun _ _ _ h => h) (Or.inl ⟨by rfl, ?_⟩) (by assumption) ?_
        rotate_left
        · intro w' hSw; (try dsimp only at hSw); (try simp only [List.getElem_toArray, List.getElem_cons_zero, List.getElem_cons_succ]); go_simp; try with_reducible rfl
        (try simp only [List.getElem_toArray, List.getElem_cons_zero, List.getElem_cons_succ, Act.put, List.setIfInBounds_toArray, List.set_cons_zero, List.set_cons_succ])
        refine wpAnyH_take (i := 14) (v := ?_) rfl (by kernel_rfl) (by kernel_rfl) (by kernel_rfl) (fun _ _ _ h => h) (Or.inl ⟨by rfl, ?_⟩) (by assumption) ?_
        rotate_left
        · intro w' hSw; (try dsimp only at hSw); (try simp only [List.getElem_toArray, List.getElem_cons_zero, List.getElem_cons_succ]); go_simp; try with_reducible rfl
        (try simp only [List.getElem_toArray, List.getElem_cons_zero, List.getElem_cons_succ, Act.put, List.setIfInBounds_toArray, List.set_cons_zero, List.set_cons_succ])
        refine wpAnyH_take (i := 15) (v := ?_) rfl (by kernel_rfl) (by kernel_rfl) (by kernel_rfl) (fun _ _ _ h => h) (Or.inl ⟨by rfl, ?_⟩) (by assumption) ?_
        rotate_left
        · intro w' hSw; (try dsimp only at hSw); (try simp only [List.getElem_toArray, List.getElem_cons_zero, List.getElem_cons_succ]); go_simp; try with_reducible rfl
        (try simp only [List.getElem_toArray, List.getElem_cons_zero, List.getElem_cons_succ, Act.put, List.setIfInBounds_toArray, List.set_cons_zero, List.set_cons_succ])
        refine wpAnyH_take (i := 16) (v := ?_) rfl (by kernel_rfl) (by kernel_rfl) (by kernel_rfl) (fun _ _ _ h => h) (Or.inl ⟨by rfl, ?_⟩) (by assumption) ?_
        rotate_left
        · intro w' hSw; (try dsimp only at hSw); (try simp only [List.getElem_toArray, List.getElem_cons_zero, List.getElem_cons_succ]); go_simp; try with_reducible rfl
        (try simp only [List.getElem_toArray, List.getElem_cons_zero, List.getElem_cons_succ, Act.put, List.setIfInBounds_toArray, List.set_cons_zero, List.set_cons_succ])
        refine wpAnyH_take (i := 17) (v := ?_) rfl (by kernel_rfl) (by kernel_rfl) (by kernel_rfl) (fun _ _ _ h => h) (Or.inl ⟨by rfl, ?_⟩) (by assumption) ?_
        rotate_left
        · intro w' hSw; (try dsimp only at hSw); (try simp only [List.getElem_toArray, List.getElem_cons_zero, List.getElem_cons_succ]); go_simp; try with_reducible rfl
        (try simp only [List.getElem_toArray, List.getElem_cons_zero, List.getElem_cons_succ, Act.put, List.setIfInBounds_toArray, List.set_cons_zero, List.set_cons_succ])
        refine wpAnyH_take (i := 18) (v := ?_) rfl (by kernel_rfl) (by kernel_rfl) (by kernel_rfl) (fun _ _ _ h => h) (Or.inl ⟨by rfl, ?_⟩) (by assumption) ?_
        rotate_left
        · intro w' hSw; (try dsimp only at hSw); (try simp only [List.getElem_toArray, List.getElem_cons_zero, List.getElem_cons_succ]); go_simp; try with_reducible rfl
        (try simp only [List.getElem_toArray, List.getElem_cons_zero, List.getElem_cons_succ, Act.put, List.setIfInBounds_toArray, List.set_cons_zero, List.set_cons_succ])
        refine wpAnyH_take (i := 19) (v := ?_) rfl (by kernel_rfl) (by kernel_rfl) (by kernel_rfl) (fun _ _ _ h => h) (Or.inl ⟨by rfl, ?_⟩) (by assumption) ?_
        rotate_left
        · intro w' hSw; (try dsimp only at hSw); (try simp only [List.getElem_toArray, List.getElem_cons_zero, List.getElem_cons_succ]); go_simp; try with_reducible rfl
        (try simp only [List.getElem_toArray, List.getElem_cons_zero, List.getElem_cons_succ, Act.put, List.setIfInBounds_toArray, List.set_cons_zero, List.set_cons_succ])
        refine wpAnyH_take (i := 20) (v := ?_) rfl (by kernel_rfl) (by kernel_rfl) (by kernel_rfl) (fun _ _ _ h => h) (Or.inl ⟨by rfl, ?_⟩) (by assumption) ?_
        rotate_left
        · intro w' hSw; (try dsimp only at hSw); (try simp only [List.getElem_toArray, List.getElem_cons_zero, List.getElem_cons_succ]); go_simp; try with_reducible rfl
        (try simp only [List.getElem_toArray, List.getElem_cons_zero, List.getElem_cons_succ, Act.put, List.setIfInBounds_toArray, List.set_cons_zero, List.set_cons_succ])
        refine wpAnyH_take (i := 21) (v := ?_) rfl (by kernel_rfl) (by kernel_rfl) (by kernel_rfl) (fun _ _ _ h => h) (Or.inl ⟨by rfl, ?_⟩) (by assumption) ?_
        rotate_left
        · intro w' hSw; (try dsimp only at hSw); (try simp only [List.getElem_toArray, List.getElem_cons_zero, List.getElem_cons_succ]); go_simp; try with_reducible rfl
        (try simp only [List.getElem_toArray, List.getElem_cons_zero, List.getElem_cons_succ, Act.put, List.setIfInBounds_toArray, List.set_cons_zero, List.set_cons_succ])
        refine wpAnyH_ready (rs := [22]) (by kernel_rfl) (by simp) ?_
        refine AllReadyH.cons rfl (fun K hK => ?_) AllReadyH.nil
        go_simp
        (try go_split_ands)
        go_at_call 37
        (try go_split_ands)
        (with_reducible refine (F7.out _).mono ?_)
        rintro e w' ⟨q22, d22, rfl, s9, q0⟩
        have S22 := Lib.hid s9
        (have qg : Below W13.heap.size W13 w' := by (refine next0 ?_ q0; repeat (first | (with_reducible exact Hid.out (by assumption)) | (with_reducible exact Below.refl _ _) | (with_reducible refine Below.drew ?_))))
        have Q22 := Lib.hid qg
        clear q0 s9
        refine hK.out _ _ (Hb.out _ qg) (fun hHeld => ?_)
        clear hK K
        (try simp only [List.getElem_toArray, List.getElem_cons_zero, List.getElem_cons_succ, Act.put, List.setIfInBounds_toArray, List.set_cons_zero, List.set_cons_succ])
        refine wpAnyH_ready (rs := [23]) (by kernel_rfl) (by simp) ?_
        refine AllReadyH.cons rfl (fun K hK => ?_) AllReadyH.nil
        go_simp
        (try go_split_ands)
        go_at_call 18
        (try go_split_ands)
        (with_reducible refine (CT1.out _ _ _ Q22.out S22.out).mono ?_)
        rintro e w' ⟨rfl, q0⟩
        (have qg : Below W13.heap.size W13 w' := next0 Q22.out q0.1)
        clear q0
        refine hK.out _ _ (Hb.out _ qg) (fun hHeld => ?_)
        clear hK K
        (try simp only [List.getElem_toArray, List.getElem_cons_zero, List.getElem_cons_succ, Act.put, List.setIfInBounds_toArray, List.set_cons_zero, List.set_cons_succ])
        refine wpAnyH_take (i := 24) (v := ?_) rfl (by kernel_rfl) (by kernel_rfl) (by kernel_rfl) (fun _ _ _ h => h) (Or.inl ⟨by rfl, ?_⟩) (by assumption) ?_
        rotate_left
        · intro w' hSw; (try dsimp only at hSw); (try simp only [List.getElem_toArray, List.getElem_cons_zero, List.getElem_cons_succ]); go_simp; try with_reducible rfl
        (try simp only [List.getElem_toArray, List.getElem_cons_zero, List.getElem_cons_succ, Act.put, List.setIfInBounds_toArray, List.set_cons_zero, List.set_cons_succ])
        refine wpAnyH_take (i := 25) (v := ?_) rfl (by kernel_rfl) (by kernel_rfl) (by kernel_rfl) (fun _ _ _ h => h) (Or.inl ⟨by rfl, ?_⟩) (by assumption) ?_
        rotate_left
        · intro w' hSw; (try dsimp only at hSw); (try simp only [List.getElem_toArray, List.getElem_cons_zero, List.getElem_cons_succ]); go_simp; try with_reducible rfl
        (try simp only [List.getElem_toArray, List.getElem_cons_zero, List.getElem_cons_succ, Act.put, List.setIfInBounds_toArray, List.set_cons_zero, List.set_cons_succ])
        refine wpAnyH_take (i := 26) (v := ?_) rfl (by kernel_rfl) (by kernel_rfl) (by kernel_rfl) (fun _ _ _ h => h) (Or.inl ⟨by rfl, ?_⟩) (by assumption) ?_
        rotate_left
        · intro w' hSw; (try dsimp only at hSw); (try simp only [List.getElem_toArray, List.getElem_cons_zero, List.getElem_cons_succ]); go_simp; try with_reducible rfl
        (try simp only [List.getElem_toArray, List.getElem_cons_zero, List.getElem_cons_succ, Act.put, List.setIfInBounds_toArray, List.set_cons_zero, List.set_cons_succ])
        refine wpAnyH_ready (rs := [27]) (by kernel_rfl) (by simp) ?_
        refine AllReadyH.cons rfl (fun K hK => ?_) AllReadyH.nil
        go_simp
        (try go_split_ands)
        go_at_call 15
        (try go_split_ands)
        (with_reducible refine (CV1.out _ (by repeat (first | (with_reducible exact Hid.out (by assumption)) | (with_reducible exact Below.refl _ _) | (with_reducible refine Below.drew ?_)))).mono ?_)
        rintro e w' ⟨rfl, q0⟩
        (have qg : Below W13.heap.size W13 w' := by (refine next0 ?_ q0.1; repeat (first | (with_reducible exact Hid.out (by assumption)) | (with_reducible exact Below.refl _ _) | (with_reducible refine Below.drew ?_))))
        clear q0
        refine hK.out _ _ (Hb.out _ qg) (fun hHeld => ?_)
        clear hK K
        (try simp only [List.getElem_toArray, List.getElem_cons_zero, List.getElem_cons_succ, Act.put, List.setIfInBounds_toArray, List.set_cons_zero, List.set_cons_succ])
        refine wpAnyH_take (i := 28) (v := ?_) rfl (by kernel_rfl) (by kernel_rfl) (by kernel_rfl) (fun _ _ _ h => h) (Or.inl ⟨by rfl, ?_⟩) (by assumption) ?_
        rotate_left
        · intro w' hSw; (try dsimp only at hSw); (try simp only [List.getElem_toArray, List.getElem_cons_zero, List.getElem_cons_succ]); go_simp; try with_reducible rfl
        (try simp only [List.getElem_toArray, List.getElem_cons_zero, List.getElem_cons_succ, Act.put, List.setIfInBounds_toArray, List.set_cons_zero, List.set_cons_succ])
        refine wpAnyH_take (i := 29) (v := ?_) rfl (by kernel_rfl) (by kernel_rfl) (by kernel_rfl) (fun _ _ _ h => h) (Or.inl ⟨by rfl, ?_⟩) (by assumption) ?_
        rotate_left
        · intro w' hSw; (try dsimp only at hSw); (try simp only [List.getElem_toArray, List.getElem_cons_zero, List.getElem_cons_succ]); go_simp; try with_reducible rfl
        (try simp only [List.getElem_toArray, List.getElem_cons_zero, List.getElem_cons_succ, Act.put, List.setIfInBounds_toArray, List.set_cons_zero, List.set_cons_succ])
        refine wpAnyH_take (i := 30) (v := ?_) rfl (by kernel_rfl) (by kernel_rfl) (by kernel_rfl) (fun _ _ _ h => h) (Or.inl ⟨by rfl, ?_⟩) (by assumption) ?_
        rotate_left
        · intro w' hSw; (try dsimp only at hSw); (try simp only [List.getElem_toArray, List.getElem_cons_zero, List.getElem_cons_succ]); go_simp; try with_reducible rfl
        (try simp only [List.getElem_toArray, List.getElem_cons_zero, List.getElem_cons_succ, Act.put, List.setIfInBounds_toArray, List.set_cons_zero, List.set_cons_succ])
        refine wpAnyH_take (i := 31) (v := ?_) rfl (by kernel_rfl) (by kernel_rfl) (by kernel_rfl) (fun _ _ _ h => h) (Or.inl ⟨by rfl, ?_⟩) (by assumption) ?_
        rotate_left
        · intro w' hSw; (try dsimp only at hSw); (try simp only [List.getElem_toArray, List.getElem_cons_zero, List.getElem_cons_succ]); go_simp; try with_reducible rfl
        (try simp only [List.getElem_toArray, List.getElem_cons_zero, List.getElem_cons_succ, Act.put, List.setIfInBounds_toArray, List.set_cons_zero, List.set_cons_succ])
        refine wpAnyH_take (i := 32) (v := ?_) rfl (by kernel_rfl) (by kernel_rfl) (by kernel_rfl) (fun _ _ _ h => h) (Or.inl ⟨by rfl, ?_⟩) (by assumption) ?_
        rotate_left
        · intro w' hSw; (try dsimp only at hSw); (try simp only [List.getElem_toArray, List.getElem_cons_zero, List.getElem_cons_succ]); go_simp; try with_reducible rfl
        (try simp only [List.getElem_toArray, List.getElem_cons_zero, List.getElem_cons_succ, Act.put, List.setIfInBounds_toArray, List.set_cons_zero, List.set_cons_succ])
        refine wpAnyH_take (i := 33) (v := ?_) rfl (by kernel_rfl) (by kernel_rfl) (by kernel_rfl) (fun _ _ _ h => h) (Or.inl ⟨by rfl, ?_⟩) (by assumption) ?_
        rotate_left
        · intro w' hSw; (try dsimp only at hSw); (try simp only [List.getElem_toArray, List.getElem_cons_zero, List.getElem_cons_succ]); go_simp; try with_reducible rfl
        (try simp only [List.getElem_toArray, List.getElem_cons_zero, List.getElem_cons_succ, Act.put, List.setIfInBounds_toArray, List.set_cons_zero, List.set_cons_succ])
        refine wpAnyH_take (i := 34) (v := ?_) rfl (by kernel_rfl) (by kernel_rfl) (by kernel_rfl) (fun _ _ _ h => h) (Or.inl ⟨by rfl, ?_⟩) (by assumption) ?_
        rotate_left
        · intro w' hSw; (try dsimp only at hSw); (try simp only [List.getElem_toArray, List.getElem_cons_zero, List.getElem_cons_succ]); go_simp; try with_reducible rfl
        (try simp only [List.getElem_toArray, List.getElem_cons_zero, List.getElem_cons_succ, Act.put, List.setIfInBounds_toArray, List.set_cons_zero, List.set_cons_succ])
        refine wpAnyH_take (i := 35) (v := ?_) rfl (by kernel_rfl) (by kernel_rfl) (by kernel_rfl) (fun _ _ _ h => h) (Or.inl ⟨by rfl, ?_⟩) (by assumption) ?_
        rotate_left
        · intro w' hSw; (try dsimp only at hSw); (try simp only [List.getElem_toArray, List.getElem_cons_zero, List.getElem_cons_succ]); go_simp; try with_reducible rfl
        (try simp only [List.getElem_toArray, List.getElem_cons_zero, List.getElem_cons_succ, Act.put, List.setIfInBounds_toArray, List.set_cons_zero, List.set_cons_succ])
        refine wpAnyH_take (i := 36) (v := ?_) rfl (by kernel_rfl) (by kernel_rfl) (by kernel_rfl) (fun _ _ _ h => h) (Or.inl ⟨by rfl, ?_⟩) (by assumption) ?_
        rotate_left
        · intro w' hSw; (try dsimp only at hSw); (try simp only [List.getElem_toArray, List.getElem_cons_zero, List.getElem_cons_succ]); go_simp; try with_reducible rfl
        (try simp only [List.getElem_toArray, List.getElem_cons_zero, List.getElem_cons_succ, Act.put, List.setIfInBounds_toArray, List.set_cons_zero, List.set_cons_succ])
        refine wpAnyH_ready (rs := [37]) (by kernel_rfl) (by simp) ?_
        refine AllReadyH.cons rfl (fun K hK => ?_) AllReadyH.nil
        go_simp
        (try go_split_ands)
        go_at_call 37
        (try go_split_ands)
        (with_reducible refine (F8.out _).mono ?_)
        rintro e w' ⟨q37, d37, rfl, s9, q0⟩
        have S37 := Lib.hid s9
        (have qg : Below W13.heap.size W13 w' := by (refine next0 ?_ q0; repeat (first | (with_reducible exact Hid.out (by assumption)) | (with_reducible exact Below.refl _ _) | (with_reducible refine Below.drew ?_))))
        have Q37 := Lib.hid qg
        clear q0 s9
        refine hK.out _ _ (Hb.out _ qg) (fun hHeld => ?_)
        clear hK K
        (try simp only [List.getElem_toArray, List.getElem_cons_zero, List.getElem_cons_succ, Act.put, List.setIfInBounds_toArray, List.set_cons_zero, List.set_cons_succ])
        refine wpAnyH_ready (rs := [38]) (by kernel_rfl) (by simp) ?_
        refine AllReadyH.cons rfl (fun K hK => ?_) AllReadyH.nil
        go_simp
        (try go_split_ands)
        go_at_call 18
        (try go_split_ands)
        (with_reducible refine (CT2.out _ _ _ Q37.out S37.out).mono ?_)
        rintro e w' ⟨rfl, q0⟩
        (have qg : Below W13.heap.size W13 w' := next0 Q37.out q0.1)
        clear q0
        refine hK.out _ _ (Hb.out _ qg) (fun hHeld => ?_)
        clear hK K
        (try simp only [List.getElem_toArray, List.getElem_cons_zero, List.getElem_cons_succ, Act.put, List.setIfInBounds_toArray, List.set_cons_zero, List.set_cons_succ])
        refine wpAnyH_take (i := 39) (v := ?_) rfl (by kernel_rfl) (by kernel_rfl) (by kernel_rfl) (fun _ _ _ h => h) (Or.inl ⟨by rfl, ?_⟩) (by assumption) ?_
        rotate_left
        · intro w' hSw; (try dsimp only at hSw); (try simp only [List.getElem_toArray, List.getElem_cons_zero, List.getElem_cons_succ]); go_simp; try with_reducible rfl
        (try simp only [List.getElem_toArray, List.getElem_cons_zero, List.getElem_cons_succ, Act.put, List.setIfInBounds_toArray, List.set_cons_zero, List.set_cons_succ])
        refine wpAnyH_take (i := 40) (v := ?_) rfl (by kernel_rfl) (by kernel_rfl) (by kernel_rfl) (fun _ _ _ h => h) (Or.inl ⟨by rfl, ?_⟩) (by assumption) ?_
        rotate_left
        · intro w' hSw; (try dsimp only at hSw); (try simp only [List.getElem_toArray, List.getElem_cons_zero, List.getElem_cons_succ]); go_simp; try with_reducible rfl
        (try simp only [List.getElem_toArray, List.getElem_cons_zero, List.getElem_cons_succ, Act.put, List.setIfInBounds_toArray, List.set_cons_zero])
        refine wpAnyH_done (by kernel_rfl) ?_ _
        go_wp2_with fail
        go_ret
        exact ⟨rfl, FIN.out _ qg⟩
end UnmL
end Go.Proofs.YtjfgnmmcdgpiiaaGreatDoor
/- How a list of bindings that comes in is opened; the four listed variables of the unify rows: a world that holds them, and what a row's list gives a walk. No conditions. -/
namespace Go.Proofs.YtjfgnmmcdgpiiaaGreatDoor
open Go Go.RowKit Go.ChangeShapes Go.WideShapes Go.ChangeAt Go.Deep
namespace UnnA
open LexM TermM TermI Kit TermU UniM UniK
theorem cellsBd : Tryz.prog.cellsOf 52 = 3 := by kernel_rfl
theorem underBd : ∃ f0 f1 : Field, Tryz.prog.underlying 52 = some (.struct #[f0, f1]) ∧ f0.offset = 0 ∧ f1.offset = 1 ∧ f0.type = 9 ∧ f1.type = 27 := ⟨_, _, Tryz.underlying52, rfl, rfl, rfl, rfl⟩
theorem three_of (l : List Value) (h : l.length = 3) : ∃ a b c, l = [a, b, c] := by
  match l, h with
  | [a, b, c], _ => exact ⟨a, b, c, rfl⟩
/-- Three cells that read as a binding. -/
theorem bind_in {H : Type} {enc : TypeId × Value → H} {W : World} {base : Nat} {sp : Nat → Bool} {held : Bool} {n : Nat} {cs : List Value} {x : DataW H × List MemPlace}
    (h : DataW.trod enc Tryz.prog W base sp held n 52 cs = some x) : ∃ (y : Bd) (v : Value), cs = KB.cells (y, v) ∧ KB.inn (· < W.heap.size) W (y, v) := by
  obtain ⟨f0, f1, hu, o0, o1, y0, y1⟩ := underBd
  obtain ⟨xs, k, hk, hxy, hcl, hxl, hf⟩ := DataW.trod_struct hu h
  rw [cellsBd] at hcl
  obtain ⟨v0, v1, v2, rfl⟩ := three_of cs hcl
  match xs, hxl with
  | [x0, x1], _ =>
    have g0 := hf 0 f0 rfl
    have g1 := hf 1 f1 rfl
    simp [o0, o1, y0, y1, cellsS, cellsT] at g0 g1
    obtain ⟨s, q1, q2, hs⟩ := DataW.trod_string Tryz.underlying9 g0
    simp at q1
    subst q1
    obtain ⟨t, v, k2, y, e, _, ht, hv, hx1⟩ := struct_in g1
    injection e with e1 e2
    injection e2 with e2 _
    subst e1 e2
    obtain ⟨l, v', e', hin⟩ := slice_in _ _ _ hv
    injection e' with e' _
    subst e'
    exact ⟨(s, .mk t l), _, rfl, hin, ht, hs⟩
/-- A slice value that reads as a slice of bindings. -/
theorem binds_in {H : Type} {enc : TypeId × Value → H} {W : World} {base : Nat} {sp : Nat → Bool} {held : Bool} {n : Nat} {cs : List Value} {x : DataW H × List MemPlace}
    (h : DataW.trod enc Tryz.prog W base sp held n 22 cs = some x) : ∃ (l : List Bd) (v : Value), cs = [v] ∧ SIn (· < W.heap.size) W l v := by
  rcases DataW.trod_slice Tryz.underlying22 h with ⟨rfl, rfl⟩ | ⟨a, len, cap, elems, rest, m, hn, rfl, rfl, _, hle, hm, hlen, hel, _⟩
  · exact ⟨[], _, rfl, SIn.nil _ _⟩
  · have each : ∀ i, i < len → ∃ tv : Bd × Value, (∀ j u, (KB.cells tv)[j]? = some u → W.cell? (a.add (i * 3 + j)) = some u) ∧ KB.inn (· < W.heap.size) W tv := by
      intro i hi
      have he := hel i hi
      rw [List.getElem?_eq_getElem (by omega)] at he
      obtain ⟨cs', h1, h2⟩ := Option.bind_eq_some_iff.1 he
      rw [cellsBd] at h1
      obtain ⟨_, hl2, hcell⟩ := World.cells?_some h1
      obtain ⟨y, v, rfl, hin⟩ := bind_in h2
      refine ⟨(y, v), fun j u hu => ?_, hin⟩
      have hj := (List.getElem?_eq_some_iff.1 hu).1
      have hj3 : j < 3 := by rw [KB.len] at hj; exact hj
      have e0 := hcell j (by omega)
      rw [add_add] at e0
      rw [e0]
      exact hu
    obtain ⟨tvs, htl, hall⟩ := gather each
    obtain ⟨b, off, spot⟩ := a
    have hsp : tvs ≠ [] → spot = none ∧ b < W.heap.size := by
      intro hne
      obtain ⟨tv, hg⟩ : ∃ tv, tvs[0]? = some tv := by cases tvs with
        | nil => exact absurd rfl hne
        | cons a r => exact ⟨a, rfl⟩
      have h0 := (hall 0 tv hg).1 0 _ rfl
      have h2 : spot = none := by simpa [Addr.add] using World.cell?_spot h0
      subst h2
      exact ⟨rfl, by simpa [Addr.add] using block_lt_of_cell h0⟩
    refine ⟨tvs.map (·.1), .slice (some ⟨b, off, spot⟩) len cap, rfl, tvs, rfl, _, cap, by rw [htl], by omega, hm, fun x hx => ?_, fun hl => ?_⟩
    · obtain ⟨i, hi⟩ := List.mem_iff_getElem?.1 hx
      exact (hall i x hi).2
    · obtain ⟨rfl, hb⟩ := hsp (by intro e; subst e; simp at hl)
      refine ⟨b, off, rfl, hb, fun i x hx j u hu => ?_⟩
      have := (hall i x hx).1 j u hu
      rw [addr_add, ← Nat.add_assoc] at this
      exact this
set_option maxRecDepth 100000 in
theorem open_binds {H : Type} {enc : TypeId × Value → H} {W : World} {b0 : Nat} {base : Nat} {sp : Nat → Bool} {held : Bool} {v : Value} {d : DataW H} {p : List MemPlace}
    (hv : Value.okWide Tryz.prog W .any b0 22 v) (h : DataW.Trod enc Tryz.prog W base sp held 22 v d p) : ∃ l, SIn (· < W.heap.size) W l v := by
  obtain ⟨a0, m0, c0, rfl⟩ := Go.WideShapes.okWide_slice Tryz.underlying22 hv
  obtain ⟨fuel, hf⟩ := h
  obtain ⟨l, v, e, hin⟩ := binds_in hf
  simp [Value.cells] at e
  subst e
  exact ⟨l, hin⟩
/-! ### The listed variables -/
abbrev list : List (String × DataW Unit) := [("math/bits.deBruijn32tab", Rows.laid_math_bits_deBruijn32tab), ("math/bits.deBruijn64tab", Rows.laid_math_bits_deBruijn64tab), ("internal/strconv.uint64pow10", Rows.laid_internal_strconv_uint64pow10), ("gameplayer/term.nameEnds", Rows.laid_gameplayer_term_nameEnds)]
def cellsOf (zs : List Int) (k : IntKind) : Array Value := (zs.map fun z => Value.int k z).toArray
noncomputable def laidWorld (os : Os) : World :=
  TermJ.lay1 (TermJ.lay1 (TermJ.lay1 (TermJ.lay1 (World.holding Tryz.prog os ⟨#[], #[], []⟩)
    1 (cellsOf Lib.pow10Tab .u64))
    2 (cellsOf [0, 1, 28, 2, 29, 14, 24, 3, 30, 22, 20, 15, 25, 17, 4, 8, 31, 27, 13, 23, 21, 19, 16, 7, 26, 12, 18, 6, 11, 5, 10, 9] .u8))
    3 (cellsOf [0, 1, 56, 2, 57, 49, 28, 3, 61, 58, 42, 50, 38, 29, 17, 4, 62, 47, 59, 36, 45, 43, 51, 22, 53, 39, 33, 30, 24, 18, 12, 5, 63, 55, 48, 27, 60, 41, 37, 16, 46, 35, 44, 21, 52, 32, 23, 11, 54, 26, 40, 15, 34, 20, 31, 10, 25, 14, 19, 9, 13, 8, 7, 6] .u8))
    0 #[.int .u8 40, .int .u8 44, .int .u8 41]
theorem laid_met_gen (os : Os) (args : Array Value) : laidMet Tryz.prog list ((laidWorld os).forCall (fun _ _ => 0) ⟨#[], args, []⟩).memory :=
  laidMet_of_run' 8 (by kernel_rfl) (by kernel_rfl)
theorem ends_gen {W : World} (h : laidMetH Tryz.prog list W) : TermT.Wd W := by
  have h1 : laidMet Tryz.prog list W := h
  have h2 := laidMet.filter (fun x => x.1 == "gameplayer/term.nameEnds") h1
  have h3 : laidMet Tryz.prog TermJ.list W := h2
  exact TermJ.ends_gen h3
theorem awake_all {W : World} (h : TermT.Wd W) : UniW.Aw W := fun w' k => UnmL.awake_any w' (h.below k h.1)
end UnnA
end Go.Proofs.YtjfgnmmcdgpiiaaGreatDoor
