/- awake of the parser's laws. Condition: the reserved words lie as laid. -/
import Derived.Test.YtdalepdpobcpaaaDoorParAv
namespace Go.Proofs.YtdalepdpobcpaaaDoor
open Go Go.RowKit
namespace ParAx
open Kit LexM TermM TermI TermU LexE LexF LexG LexP ParM ParA ParB ParC ParD ParK ParE ParF ParG ParH ParI ParW ParV ParX ParX2 ParX3 ParY ParP ParQ ParAw ParAv
set_option maxRecDepth 100000 in
set_option maxHeartbeats 6400000 in
theorem awake_any (w : World) (hw : Wd w) : Calls Tryd.prog 11 #[] w fun e w' => e = .returned (.bool true) ∧ Below w.heap.size w w' := by
  have H1 := Lib.hid (ex1 w hw)
  go_enter Tryd.func11, Tryd.ntmps11
  go_wp2_with fail
  refine H1.out.mono ?_
  rintro e w1 ⟨p, c, rfl, hI, hB⟩
  have K1 := Lib.hid hI
  have B1 := Lib.hid hB
  have H2 := Lib.hid (ex2 w1 (hw.below hB hw.1))
  clear hI hB H1
  go_wp2_with fail
  refine H2.out.mono ?_
  rintro e w2 ⟨rfl, hB⟩
  have B2 := Lib.hid (next0 B1.out hB)
  have C2 := Lib.hid hB
  clear hB H2
  go_upto_region 3 with fail
  obtain ⟨W3, hW3⟩ : ∃ W3, W3 = w2.alloc (.cells #[.string ⟨#[]⟩, .slice none 0 0] 31) := ⟨_, rfl⟩
  have D3 : Below w2.heap.size w2 W3 := by rw [hW3]; exact below_alloc w2 _
  have B3 := Lib.hid (next0 B2.out D3)
  have C3 := Lib.hid (next0 C2.out D3)
  rw [← hW3]
  clear hW3 D3 B2 C2
  have H3 := Lib.hid (ex3 W3 (hw.below B3.out hw.1))
  go_wp2_with fail
  refine H3.out.mono ?_
  rintro e w4 ⟨rfl, hB⟩
  have B4 := Lib.hid (next0 B3.out hB)
  have C4 := Lib.hid (next0 C3.out hB)
  clear hB H3 B3 C3
  go_upto_region 4 with fail
  obtain ⟨W5, hW5⟩ : ∃ W5, W5 = w4.alloc (.cells #[.string ⟨#[]⟩, .slice none 0 0, .slice none 0 0] 34) := ⟨_, rfl⟩
  have D5 : Below w4.heap.size w4 W5 := by rw [hW5]; exact below_alloc w4 _
  have B5 := Lib.hid (next0 B4.out D5)
  have C5 := Lib.hid (next0 C4.out D5)
  rw [← hW5]
  clear hW5 D5 B4 C4
  have H4 := Lib.hid (ex4 W5 (hw.below B5.out hw.1))
  go_wp2_with fail
  refine H4.out.mono ?_
  rintro e w6 ⟨p4, c4, rfl, hI, hB⟩
  have B6 := Lib.hid (next0 B5.out hB)
  have hz6 := B6.out.size
  have K6 := (K1.out.keep (w' := w6) (fun b o hb => (next0 C5.out hB).cell (p := ⟨b, o, none⟩) hb.2)).wide (ok' := (· < w6.heap.size)) (fun b hb => by have h1 : b < w1.heap.size := hb.2; have h2 := (next0 C5.out hB).size; show b < w6.heap.size; omega)
  have K4 := hI.weaken (ok' := (· < w6.heap.size)) (fun b hb => hb.2)
  clear hI hB H4 B5 C5 K1
  obtain ⟨pp, cc, e1, _, _, hr⟩ := RIn.row K6
  obtain ⟨pt, ct, e4, _, _, _, ht⟩ := SlIn.row K4
  cases e1
  cases e4
  obtain ⟨x0, b, o, q, d, u, eu, h0, rfl, hb, c1, c2, c3, hs, hl, _⟩ := hr 0 (by decide)
  cases h0
  obtain ⟨x1, b', o', q', d', u', eu', h1, hbo, hb', c1', c2', c3', hs', hl', _⟩ := hr 1 (by decide)
  cases h1
  cases hbo
  obtain ⟨pl, cl, e5, _, _, hrl⟩ := LIn.row hl
  cases e5
  obtain ⟨y0, g, oo, q0, d0, h0, rfl, hg, l1, l2, l3, hsl, _⟩ := hrl 0 (by decide)
  cases h0
  obtain ⟨y1, g', oo', q1, d1, h1, hgo, hg', l1', l2', l3', hsl', _⟩ := hrl 1 (by decide)
  cases h1
  cases hgo
  obtain ⟨t1, tb, tof, tq, td, h1, rfl, htb, t1', t2', hst, _⟩ := ht 1 (by decide)
  cases h1
  have T1 := Lib.hid hsl'
  clear hr ht hrl hs hs' hl hl' hsl hst K4 K6
  simp only [Nat.zero_mul, Nat.one_mul, Nat.add_zero, Tm.nm, Tm.args, List.length_cons, List.length_nil, Nat.zero_add, Nat.reduceAdd] at c1 c2 c3 c1' c2' c3' l1 l2 l3 l1' l2' l3' t1' t2' T1
  go_upto_region 7 with fail
  have c3 : w6.cell? ⟨b, o + 2, none⟩ = _ := c3
  have c3' : w6.cell? ⟨b, o + 3 + 2, none⟩ = _ := c3'
  go_wp2_with fail
  obtain ⟨W7, hW7⟩ : ∃ W7, W7 = w6.alloc (.cells #[.string ⟨#[88]⟩, .slice none 0 0] 31) := ⟨_, rfl⟩
  have g7 : Gr w6 W7 := by rw [hW7]; exact Gr.alloc _ _
  have T2 : SlIn (· < W7.heap.size) W7 [.mk ⟨#[88]⟩ []] (.slice (some ⟨w6.heap.size, 0, none⟩) 1 1) := by
    rw [hW7]
    exact ((own_one (w := w6) (t := .mk ⟨#[88]⟩ []) (base := 0) (p := none) (c := 0) (SlIn.none _ _) (by decide) (Nat.zero_le _)).slin).weaken (fun b hb => hb.2)
  rw [← hW7]
  have HT := TermEq.term_any (.mk ⟨#[114]⟩ [.mk ⟨#[88]⟩ []]) true W7.heap.size W7 _ (.mk ⟨#[114]⟩ [.mk ⟨#[88]⟩ []]) _ (by simp) (Nat.le_refl _) ((T1.out.gr g7 (Nat.le_refl _)).weaken (fun b hb => Nat.lt_of_lt_of_le hb g7.size)) T2
  refine HT.mono ?_
  rintro e w8 ⟨rfl, g8⟩
  have gg := g7.trans g8
  have m1 := (gg.cell hb').trans c3'
  have m2 := (gg.cell htb).trans t1'
  have B8 := Lib.hid (next0 B6.out gg.1)
  clear c1 c2 c3 c1' c2' c3' l1 l2 l3 l1' l2' l3' t1' t2' T1 T2 HT hW7 g7 g8 gg
  go_wp2_with fail
  go_ret
  exact ⟨rfl, B8.out⟩
end ParAx
end Go.Proofs.YtdalepdpobcpaaaDoor
