/- The walk of ParserValid. Condition: the reserved words lie as laid. -/
import Derived.Test.YtdalepdpobcpaaaDoorParAx
import Derived.Test.YtdalepdpobcpaaaDoorParVd
import Derived.Test.YtdalepdpobcpaaaDoorParL2
import Derived.Test.YtdalepdpobcpaaaDoorTermV
namespace Go.Proofs.YtdalepdpobcpaaaDoor
open Go Go.RowKit
namespace ParL5
open Kit LexM TermM TermI TermU LexE LexF LexG LexP LexQ ParM ParA ParB ParC ParD ParK ParE ParF ParG ParH ParI ParW ParV ParX ParX2 ParX3 ParY ParN ParP ParQ ParAx ParLn ParVd
set_option maxRecDepth 100000 in
set_option maxHeartbeats 800000 in
theorem atom_any (t : Tm) (ht : AtOk t) (B : Nat) (w : World) (sv : Value) (hB : B ≤ w.heap.size) (hs : t.nm.size ≤ maxLen) (h : SlIn (· < B) w t.args sv) :
    Calls Tryd.prog 24 #[.agg #[.string t.nm, sv]] w fun e w' => e = .returned (.bool true) ∧ Gr w w' := by
  obtain ⟨W1, hW1⟩ : ∃ W1, W1 = w.alloc (.cells #[.string t.nm, sv] 31) := ⟨_, rfl⟩
  have G1 : Gr w W1 := by rw [hW1]; exact Gr.alloc _ _
  have H1 : Hid (Has W1 w.heap.size #[.string t.nm, sv]) := Lib.hid (by rw [hW1]; exact Has.new _ _ _)
  have V := TermV.rvalid_any t B W1 sv (Nat.le_trans hB G1.size) hs (h.gr G1 hB)
  rw [ht.1] at V
  have HV := Lib.hid V
  have N := Lib.hid (fun w => by have := TermB.rname_any t.nm w hs; rw [show nameL t.nm.data.toList = true from ht.2] at this; exact this)
  have GG := Lib.hid G1
  have HW := Lib.hid hW1
  obtain ⟨p, c, rfl⟩ := h.form
  obtain ⟨x1, x2, x3, x4, x5⟩ := H1.out.two
  clear V G1 h ht hs hB
  generalize t.nm = tn at *
  generalize t.args.length = ta at *
  go_enter Tryd.func24, Tryd.ntmps24
  go_upto_region 1 with fail
  rw [← hW1]
  clear hW1 HW
  go_wp2_with fail
  refine HV.out.mono ?_
  rintro e w2 ⟨rfl, g2⟩
  have G2 := Lib.hid (GG.out.trans g2)
  obtain ⟨y1, y2, y3, y4, y5⟩ := (H1.out.step0 g2.1).two
  clear x1 x2 x3 x4 x5 g2 HV H1 GG
  go_wp2_with fail
  refine (N.out _).mono ?_
  rintro e w' ⟨rfl, rfl⟩
  go_wp2_with fail
  go_ret
  exact ⟨rfl, G2.out⟩
set_option maxRecDepth 100000 in
set_option maxHeartbeats 3200000 in
theorem valid_good (s : ByteArray) (w : World) (hw : Wd w) (hs : s.size ≤ 2000) (l : List Rl) (h1 : wholeF (descF 129 []) s.data.toList = .good l []) :
    Calls Tryd.prog 6 #[.string s] w fun e w' => e = .returned (.bool true) ∧ Below w.heap.size w w' := by
  have HA := Lib.hid awake_any
  have C1 := Lib.hid (parse_any s w hw (by omega))
  have OK := Lib.hid (parse_ok h1)
  have hm8 := ParL2.parse_most h1
  rw [h1] at C1
  clear h1
  have hm128 : (l.length : Int) ≤ 128 := by omega
  go_enter Tryd.func6, Tryd.ntmps6
  go_wp2_with fail
  refine C1.out.mono ?_
  rintro e w1 (⟨l', p1, c1, hO, rfl, hS1, hB1⟩ | ⟨a, er, hO, rfl, hB⟩)
  case inr => cases hO
  injection hO with hO _
  subst hO
  have B1 := Lib.hid hB1
  obtain ⟨pp, cc, e1, _, _, hR⟩ := RIn.row (hS1.wide (ok' := (· < w1.heap.size)) (fun b hb => hb.2))
  injection e1 with e1 _ e2
  subst e1 e2
  have HR := Lib.hid hR
  have HM : Hid (∃ x, x = l.length) := Lib.hid ⟨_, rfl⟩
  clear hB1 hS1 C1 hR HM
  generalize hlm : l.length = m at *
  have HM := Lib.hid hlm
  clear hlm
  go_wp2_with fail
  go_loopw [6] (fun i wr => ∃ k : Nat, k ≤ m ∧ i = .int .i64 k ∧ Hid (Gr w1 wr)) (fun i _ => m - (intOf i).toNat)
  case atStart => exact ⟨0, Nat.zero_le _, rfl, Lib.hid (Gr.refl _)⟩
  case round =>
    obtain ⟨k, hk, rfl, hg⟩ := hrel
    obtain ⟨wo, hwo⟩ : ∃ wo : World, wo = wr := ⟨_, rfl⟩
    subst hwo
    by_cases hlt : k < m
    · obtain ⟨t, b, o, q, d, u, e, ht, rfl, hb, c1, c2, c3, hs1, hl1, hts⟩ := (HR.out.gr hg.out (Nat.le_refl _)) k (by rw [HM.out]; exact hlt)
      have OKt := OK.out t (List.mem_of_getElem? ht)
      obtain ⟨pb, cb, e1, _, _, hRL⟩ := LIn.row hl1
      injection e1 with e1 _ e2
      subst e1 e2
      have K1 := Lib.hid (atom_any t.1 OKt.1 w1.heap.size wo _ hg.out.size hts hs1)
      have c3' : wo.cell? ⟨b, o + k * 3 + 2, none⟩ = _ := c3
      have RL := Lib.hid hRL
      have OB := Lib.hid OKt.2.2
      have hb8 : (t.2.length : Int) ≤ 8 := by have := OKt.2.1; omega
      have hgb : b < wo.heap.size := Nat.lt_of_lt_of_le hb hg.out.size
      have HB := Lib.hid hb
      clear hs1 hl1 hRL ht OKt hts hb
      generalize t.1.nm = tn at *
      generalize t.1.args.length = ta at *
      generalize hlb : t.2.length = nb at *
      have HN := Lib.hid hlb
      clear hlb
      have hnb : nb ≤ 8 := by omega
      go_wp2_with fail
      refine K1.out.mono ?_
      rintro e w2 ⟨rfl, g2⟩
      have G2 := Lib.hid (hg.out.trans g2)
      have D3 := (g2.cell hgb).trans c3
      have D3' : w2.cell? ⟨b, o + k * 3 + 2, none⟩ = _ := D3
      have gb2 : b < w2.heap.size := Nat.lt_of_lt_of_le hgb g2.size
      have S2 := Lib.hid g2
      clear c1 c2 c3 c3' K1 g2
      go_wp2_with fail
      go_loopw [7] (fun j wr => ∃ k2 : Nat, k2 ≤ nb ∧ j = .int .i64 k2 ∧ Hid (Gr w2 wr)) (fun j _ => nb - (intOf j).toNat)
      case atStart => exact ⟨0, Nat.zero_le _, rfl, Lib.hid (Gr.refl _)⟩
      case round =>
        obtain ⟨k2, hk2, rfl, hg2⟩ := hrel
        have E3 := (hg2.out.cell gb2).trans D3
        have E3' : wr.cell? ⟨b, o + k * 3 + 2, none⟩ = _ := E3
        clear D3 D3'
        by_cases hlt2 : k2 < nb
        · obtain ⟨y, b2, o2, q2, d2, hy, rfl, hb2, l1, l2, l3, hsl, hyn⟩ := (RL.out.gr (S2.out.trans hg2.out) hg.out.size) k2 (by rw [HN.out]; exact hlt2)
          have K2 := Lib.hid (atom_any y.2 (OB.out y (List.mem_of_getElem? hy)) w1.heap.size wr _ (G2.out.trans hg2.out).size hyn hsl)
          have l3' : wr.cell? ⟨b2, o2 + k2 * 3 + 2, none⟩ = _ := l3
          clear hy hsl hyn
          generalize y.2.nm = yn at *
          generalize y.2.args.length = ya at *
          go_wp2_with fail
          refine K2.out.mono ?_
          rintro e w3 ⟨rfl, g3⟩
          have G3 := Lib.hid (hg2.out.trans g3)
          clear g3 K2 l1 l2 l3 l3' E3 E3'
          go_wp2_with fail
          go_roundw
          case rel => exact ⟨k2 + 1, by omega, by go_num, G3⟩
          case measure => simp [intOf]; omega
        · obtain rfl : k2 = nb := by omega
          go_wp2_with fail
          go_roundw
          case rel => exact ⟨k + 1, by omega, by go_num, Lib.hid (G2.out.trans hg2.out)⟩
          case measure => simp [intOf]; omega
    · obtain rfl : k = m := by omega
      have B2 := Lib.hid (next0 B1.out hg.out.1)
      go_wp2_with fail
      refine (HA.out _ (hw.below B2.out hw.1)).mono ?_
      rintro e w8 ⟨rfl, g8⟩
      have B8 := Lib.hid (next0 B2.out g8)
      clear g8
      go_wp2_with fail
      go_ret
      exact ⟨rfl, B8.out⟩
set_option maxRecDepth 100000 in
set_option maxHeartbeats 800000 in
theorem valid (s : ByteArray) (w : World) (hw : Wd w) : Calls Tryd.prog 6 #[.string s] w fun e w' => e = .returned (.bool true) ∧ Below w.heap.size w w' := by
  rcases Nat.lt_or_ge 2000 s.size with hs | hs
  · have HA := Lib.hid awake_any
    have hs1 : (2000 : Int) < (s.size : Int) := by omega
    go_enter Tryd.func6, Tryd.ntmps6
    go_wp2_with fail
    refine (HA.out w hw).mono ?_
    rintro e w8 ⟨rfl, g8⟩
    have B8 := Lib.hid g8
    clear g8
    go_wp2_with fail
    go_ret
    exact ⟨rfl, B8.out⟩
  cases h1 : wholeF (descF 129 []) s.data.toList with
  | good l r =>
    obtain ⟨_, _, _, _, rfl⟩ := whole_good h1
    exact valid_good s w hw hs l h1
  | bad a er =>
    have HA := Lib.hid awake_any
    have C1 := Lib.hid (parse_any s w hw (by omega))
    have hn := nz_whole (descF 129 []) (fun ts => nz_desc 129 [] ts rfl (by decide)) s.data.toList a er h1
    have he : (er != 0) = true := by rw [bne_iff_ne]; omega
    rw [h1] at C1
    clear h1 hn
    go_enter Tryd.func6, Tryd.ntmps6
    go_wp2_with fail
    refine C1.out.mono ?_
    rintro e w1 (⟨l', p1, c1, hO, rfl, hS1, hB1⟩ | ⟨a', er', hO, rfl, hB1⟩)
    case inl => cases hO
    injection hO with e1 e2
    subst e1 e2
    have B1 := Lib.hid hB1
    clear hB1 C1
    go_wp2_with fail
    refine (HA.out _ (hw.below B1.out hw.1)).mono ?_
    rintro e w8 ⟨rfl, g8⟩
    have B8 := Lib.hid (next0 B1.out g8)
    clear g8
    go_wp2_with fail
    go_ret
    exact ⟨rfl, B8.out⟩
end ParL5
end Go.Proofs.YtdalepdpobcpaaaDoor
