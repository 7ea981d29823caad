/- slices.BinarySearchFunc over terms, by the code's Compare. -/
import Derived.Test.YtgfdplmilichiaaDoorTermFi
import Derived.BigQuiet
import Derived.Deep.RegionHeld3
namespace Go.Proofs.YtgfdplmilichiaaDoor
open Go Go.RowKit
namespace TermBs
open LexM TermM TermI Kit TermN TermP TermQ TermR TermCr
def Found (l : List Tm) (t : Tm) (w : World) (e : Ending) (w' : World) : Prop :=
  (∃ (i : Nat) (f : Bool), i ≤ l.length ∧ e = .returned (.tuple #[.int .i64 i, .bool f]) ∧ (∀ (j : Nat) (y : Tm), j < i → l[j]? = some y → cmpT y t < 0) ∧ (∀ (j : Nat) (y : Tm), i ≤ j → l[j]? = some y → 0 ≤ cmpT y t) ∧ (f = true ↔ ∃ y, l[i]? = some y ∧ cmpT y t = 0)) ∧ Gr w w'
set_option maxRecDepth 100000 in
set_option maxHeartbeats 3200000 in
theorem bs_any (l : List Tm) (t : Tm) (hS : ∀ (i j : Nat) (x y : Tm), i < j → l[i]? = some x → l[j]? = some y → cmpT y t < 0 → cmpT x t < 0) (hlen : l.length ≤ 3000000)
    (B : Nat) (w : World) (v tv : Value) (hB : B ≤ w.heap.size) (hn : t.nm.size ≤ maxLen) (h : SlIn (· < B) w l v) (h' : SlIn (· < B) w t.args tv) :
    Calls Tryd.prog 72 #[v, .agg #[.string t.nm, tv], .func (.func 36) #[] #[]] w (Found l t w) := by
  obtain ⟨p, c, rfl, _, hc, hm, hR⟩ := h.row
  obtain ⟨p', c', rfl⟩ := h'.form
  have HR := Lib.hid hR
  have HB := Lib.hid hB
  have HT := Lib.hid h'
  have HN := Lib.hid hn
  have HS := Lib.hid hS
  unfold Found
  generalize hlm : l.length = m at *
  have HM := Lib.hid hlm
  obtain ⟨W1, hW1⟩ : ∃ W1, W1 = w.alloc (.cells #[.string t.nm, .slice p' t.args.length c'] 28) := ⟨_, rfl⟩
  have G0 : Hid (Gr w W1) := Lib.hid (by rw [hW1]; exact Gr.alloc w _)
  have H1 : Hid (Has W1 w.heap.size #[.string t.nm, .slice p' t.args.length c']) := Lib.hid (by rw [hW1]; exact Has.new _ _ _)
  have KALL := Lib.hid (fun wr (dw : Gr w wr) (k : Nat) (hlt : k < m) => by
    obtain ⟨x, b, o, q, d, hx, hp, hb, c1, c2, hs, hts⟩ := (HR.out.gr dw HB.out) k (by rw [HM.out]; exact hlt)
    exact (⟨x, b, o, q, x.args.length, d, x.nm, hx, hp, c1, c2, fun w2 (g : Gr wr w2) => cmp_any x B w2 _ t _ (Nat.le_trans HB.out (dw.trans g).size) hts HN.out (hs.gr g (Nat.le_trans HB.out dw.size)) (HT.out.gr (dw.trans g) HB.out)⟩ :
      ∃ (x : Tm) (b o : Nat) (q : Option Addr) (xa d : Nat) (xn : ByteArray), l[k]? = some x ∧ p = some ⟨b, o, none⟩ ∧ wr.cell? ⟨b, o + k * 2, none⟩ = some (.string xn) ∧ wr.cell? ⟨b, o + k * 2 + 1, none⟩ = some (.slice q xa d) ∧
        ∀ w2, Gr wr w2 → Calls Tryd.prog 36 #[.agg #[.string xn, .slice q xa d], .agg #[.string t.nm, .slice p' t.args.length c']] w2 fun e w' => e = .returned (.int .i64 (cmpT x t)) ∧ Gr w2 w'))
  clear hR h h' hc hm hlm hS hB hn HR HT HN
  go_enter Tryd.func72, Tryd.ntmps72
  go_upto_region 1 with fail
  rw [← hW1]
  clear hW1
  go_wp2_with fail
  go_loopw [9, 10] (fun i j wr => ∃ lo hi : Nat, lo ≤ hi ∧ hi ≤ m ∧ i = .int .i64 lo ∧ j = .int .i64 hi ∧ Hid (∀ (j : Nat) (y : Tm), j < lo → l[j]? = some y → cmpT y t < 0) ∧ Hid (∀ (j : Nat) (y : Tm), hi ≤ j → l[j]? = some y → 0 ≤ cmpT y t) ∧ Hid (Gr W1 wr)) (fun i j _ => (intOf j).toNat - (intOf i).toNat)
  case atStart => exact ⟨0, m, Nat.zero_le _, Nat.le_refl _, rfl, rfl, Lib.hid (fun j y hj => absurd hj (Nat.not_lt_zero _)), Lib.hid (fun j y hj hy => by
    have h1 := (List.getElem?_eq_some_iff.1 hy).1
    have h2 := HM.out
    omega), Lib.hid (Gr.refl _)⟩
  case round =>
    obtain ⟨lo, hi, hlh, hhm, rfl, rfl, hA, hZ, hg⟩ := hrel
    have DW := Lib.hid (G0.out.trans hg.out)
    obtain ⟨x1, x2, _⟩ := (hg.out.has H1.out).two
    by_cases hlt : lo < hi
    · obtain ⟨q0, hq0⟩ : ∃ q0, q0 = (lo + hi) / 2 := ⟨_, rfl⟩
      have e1 : ((lo : Int) + (hi : Int)) / 2 = (q0 : Int) := by omega
      have hq1 : lo ≤ q0 := by omega
      have hq2 : q0 < hi := by omega
      have hq3 : q0 < m := by omega
      obtain ⟨x, b, o, q, xa, d, xn, hx, rfl, c1, c2, KK0⟩ := KALL.out wr DW.out q0 hq3
      have KK := Lib.hid KK0
      have HX := Lib.hid hx
      clear KK0 hx hq0
      generalize hz : cmpT x t = z at KK
      have HZ := Lib.hid hz
      clear hz
      obtain ⟨zb, hzb⟩ : ∃ zb, decide (z < 0) = zb := ⟨_, rfl⟩
      go_upto_region 5 with fail
      go_cut [31] (fun s31 wx => s31 = .bool zb ∧ Hid (Gr wr wx))
      case first =>
        clear KALL H1 G0 hA hZ DW HX HZ HS HM
        go_region_with (first | (go_at_call 36; (with_reducible refine (KK.out _ (by first | exact Gr.drew _ | exact Gr.refl _)).mono ?_); rintro e w3 ⟨rfl, g3⟩; have G3 := Lib.hid (Gr.trans (by first | exact Gr.drew _ | exact Gr.refl _) g3 : Gr wr w3); clear g3))
        all_goals
          go_wp2_with fail
          go_meet
          exact ⟨rfl, G3⟩
      case rest =>
        obtain ⟨rfl, G3⟩ := hcut
        cases zb
        · have hz0 := of_decide_eq_false hzb
          have HZ2 : Hid (∀ (j : Nat) (y : Tm), q0 ≤ j → l[j]? = some y → 0 ≤ cmpT y t) := Lib.hid (fun j y hj hy => by
            have h1 := HZ.out
            by_cases e : j = q0
            · subst e; rw [HX.out] at hy; injection hy with hy; subst hy; omega
            · have h2 := HS.out q0 j x y (by omega) HX.out hy
              omega)
          clear hzb hz0
          go_wp2_with fail
          go_roundw
          case rel => exact ⟨lo, q0, hq1, by omega, rfl, rfl, hA, HZ2, Lib.hid (hg.out.trans G3.out)⟩
          case measure => simp [intOf]; omega
        · have hz0 := of_decide_eq_true hzb
          have HA2 : Hid (∀ (j : Nat) (y : Tm), j < q0 + 1 → l[j]? = some y → cmpT y t < 0) := Lib.hid (fun j y hj hy => by
            have h1 := HZ.out
            by_cases e : j = q0
            · subst e; rw [HX.out] at hy; injection hy with hy; subst hy; omega
            · exact HS.out j q0 y x (by omega) hy HX.out (by omega))
          clear hzb hz0
          go_wp2_with fail
          go_roundw
          case rel => exact ⟨q0 + 1, hi, by omega, hhm, by go_num, rfl, HA2, hZ, Lib.hid (hg.out.trans G3.out)⟩
          case measure => simp [intOf]; omega
    · obtain rfl : lo = hi := by omega
      by_cases hlm : lo < m
      · obtain ⟨x, b, o, q, xa, d, xn, hx, rfl, c1, c2, KK0⟩ := KALL.out wr DW.out lo hlm
        have KK := Lib.hid KK0
        have HX := Lib.hid hx
        clear KK0 hx
        generalize hz : cmpT x t = z at KK
        have HZ := Lib.hid hz
        clear hz
        obtain ⟨zb, hzb⟩ : ∃ zb, (z == 0) = zb := ⟨_, rfl⟩
        have hgb : b < wr.heap.size := World.block_lt_of_cell? wr ⟨b, o + lo * 2, none⟩ c1
        have hgw : w.heap.size < wr.heap.size := World.block_lt_of_cell? wr ⟨w.heap.size, 0, none⟩ x1
        go_upto_region 8 with fail
        go_cut [6, 7] (fun s6 s7 wx => s6 = .int .i64 lo ∧ s7 = .bool zb ∧ Hid (Gr wr wx))
        case first =>
          clear KALL H1 G0 hA hZ DW HX HZ HS HM
          generalize t.nm = tt at *
          generalize t.args.length = tta at *
          have Hb : Hid (∀ w', Gr wr w' → w'.cell? ⟨w.heap.size, 0, none⟩ = some (.string tt) ∧ w'.cell? ⟨w.heap.size, 1, none⟩ = some (.slice p' tta c') ∧ w'.cell? ⟨b, o + lo * 2, none⟩ = some (.string xn) ∧ w'.cell? ⟨b, o + lo * 2 + 1, none⟩ = some (.slice q xa d) ∧ Hid (Gr wr w') ∧ wr.heap.size ≤ w'.heap.size) := Lib.hid (fun w' g => ⟨(g.cell hgw).trans x1, (g.cell hgw).trans x2, (g.cell hgb).trans c1, (g.cell hgb).trans c2, Lib.hid g, g.size⟩)
          have hs0 := Hb.out _ (TermR.Gr.dr (Gr.refl wr))
          go_region_held3 (fun w' => w'.cell? ⟨w.heap.size, 0, none⟩ = some (.string tt) ∧ w'.cell? ⟨w.heap.size, 1, none⟩ = some (.slice p' tta c') ∧ w'.cell? ⟨b, o + lo * 2, none⟩ = some (.string xn) ∧ w'.cell? ⟨b, o + lo * 2 + 1, none⟩ = some (.slice q xa d) ∧ Hid (Gr wr w') ∧ wr.heap.size ≤ w'.heap.size)
            (first | (with_reducible assumption) | (with_reducible exact ⟨‹_›, ‹_›, ‹_›, ‹_›, ‹_›, ‹_›⟩) | (with_reducible refine Hb.out _ ?_; repeat (first | (with_reducible exact Hid.out (by assumption)) | (with_reducible exact Gr.refl _) | (with_reducible refine TermR.Gr.dr ?_) | (with_reducible refine Gr.more ?_ _))))
            (first | (go_at_call 36; (try go_split_ands); (with_reducible refine (KK.out _ (by repeat (first | (with_reducible exact Hid.out (by assumption)) | (with_reducible exact Gr.refl _) | (with_reducible refine TermR.Gr.dr ?_) | (with_reducible refine Gr.more ?_ _)))).mono ?_); rintro e w' ⟨rfl, q0⟩; (have qg : Gr wr w' := by (refine Gr.trans ?_ q0; repeat (first | (with_reducible exact Hid.out (by assumption)) | (with_reducible exact Gr.refl _) | (with_reducible refine TermR.Gr.dr ?_) | (with_reducible refine Gr.more ?_ _)))); clear q0; obtain ⟨z1, z2, z3, z4, z5, z6⟩ := Hb.out _ qg))
          all_goals
            go_wp2_with fail
            go_meet
            exact ⟨rfl, rfl, Lib.hid qg⟩
        case rest =>
          obtain ⟨rfl, rfl, G3⟩ := hcut
          have HF : zb = true ↔ ∃ y, l[lo]? = some y ∧ cmpT y t = 0 := by
            rw [← hzb, beq_iff_eq]
            constructor
            · intro hh; exact ⟨x, HX.out, by rw [HZ.out]; exact hh⟩
            · rintro ⟨y, hy, hh⟩
              rw [HX.out] at hy; injection hy with hy; subst hy
              rw [← HZ.out]; exact hh
          go_wp2_with fail
          go_ret2
          exact ⟨⟨lo, zb, by omega, rfl, hA.out, hZ.out, HF⟩, DW.out.trans G3.out⟩
      · obtain rfl : lo = m := by omega
        have HF : Hid (false = true ↔ ∃ y, l[lo]? = some y ∧ cmpT y t = 0) := Lib.hid (by
          constructor
          · intro hh; cases hh
          · rintro ⟨y, hy, _⟩
            have h1 := (List.getElem?_eq_some_iff.1 hy).1
            have h2 := HM.out
            omega)
        go_upto_region 8 with fail
        go_cut [6, 7] (fun s6 s7 wx => s6 = .int .i64 lo ∧ s7 = .bool false ∧ Hid (Gr wr wx))
        case first =>
          clear KALL H1 G0 hA hZ DW HS HM HF
          go_quiet (fail)
          all_goals
            go_wp2_with fail
            go_meet
            exact ⟨rfl, rfl, Lib.hid (by first | exact Gr.drewN _ _ | exact Gr.drew _ | exact Gr.refl _)⟩
        case rest =>
          obtain ⟨rfl, rfl, G3⟩ := hcut
          go_wp2_with fail
          go_ret2
          exact ⟨⟨lo, false, by omega, rfl, hA.out, hZ.out, HF.out⟩, DW.out.trans G3.out⟩
end TermBs
end Go.Proofs.YtgfdplmilichiaaDoor
