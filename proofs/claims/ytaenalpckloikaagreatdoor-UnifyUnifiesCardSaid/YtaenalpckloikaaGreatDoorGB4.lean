/- Texts laid together: UnuL. Their own heads stand before each. -/
import Derived.Test.YtaenalpckloikaaGreatDoorGB3
import Derived.Test.YtaenalpckloikaaGreatDoorGA17
import Derived.Test.YtaenalpckloikaaGreatDoorGA12
/- Unify of the code for any terms, and the walk of UnifyUnifies, awake's contract as a premise. Condition: the variable nameEnds holds its bytes. -/
namespace Go.Proofs.YtaenalpckloikaaGreatDoor
open Go Go.RowKit
namespace UnuL
open LexM TermM TermI Kit TermN TermS TermU TermL UniK UniM UniA UniB UniC UniD UniE UniG UniH UniJ UniO UniL UniR UniV UniW TermT UnmA UnmE UnmF UnmG UnuA UnuB UnuD UnuE UnuF UnuJ UnuK
theorem valid_ok {t : Tm} (h : V t) (hn : t.nm.size ≤ maxLen) (hz : sizeT t ≤ 400) : Ok t := by
  have := TermU1.text_len false 4 t h
  exact ⟨hn, by omega, by omega⟩
set_option maxRecDepth 100000 in
set_option maxHeartbeats 1600000 in
theorem cunify_bad (a b : Tm) (hV : (validT false 4 a && validT false 4 b) = false) (B : Nat) (w : World) (av bv : Value) (hB : B ≤ w.heap.size) (ha : SlIn (· < B) w a.args av) (hb : SlIn (· < B) w b.args bv) (han : a.nm.size ≤ maxLen) (hbn : b.nm.size ≤ maxLen) :
    Calls Tryz.prog 29 #[.agg #[.string a.nm, av], .agg #[.string b.nm, bv]] w (MtR none w) := by
  obtain ⟨pa, ca, rfl⟩ := ha.form
  obtain ⟨pb, cb, rfl⟩ := hb.form
  obtain ⟨W2, hW2⟩ : ∃ W2, W2 = (w.alloc (.cells #[.string a.nm, .slice pa a.args.length ca] 27)).alloc (.cells #[.string b.nm, .slice pb b.args.length cb] 27) := ⟨_, rfl⟩
  have B2 : Hid (Below w.heap.size w W2) := Lib.hid (by rw [hW2]; exact ((Gr.alloc _ _).more _).1)
  have H2 : Hid (Has W2 w.heap.size #[.string a.nm, .slice pa a.args.length ca]) := Lib.hid (by rw [hW2]; exact (Has.new w _ _).alloc _)
  have T2 : Hid (Has W2 (w.heap.size + 1) #[.string b.nm, .slice pb b.args.length cb]) := Lib.hid (by rw [hW2]; exact Has.new1 w _ _ _)
  have VA := Lib.hid (fun w' (k : Below w.heap.size w w') => TermV.valid_any a B w' _ (Nat.le_trans hB k.size) han (ha.deep k hB))
  have VB := Lib.hid (fun w' (k : Below w.heap.size w w') => TermV.valid_any b B w' _ (Nat.le_trans hB k.size) hbn (hb.deep k hB))
  obtain ⟨va, hva⟩ : ∃ z, validT false 4 a = z := ⟨_, rfl⟩
  obtain ⟨vb, hvb⟩ : ∃ z, validT false 4 b = z := ⟨_, rfl⟩
  rw [hva] at VA hV
  rw [hvb] at VB hV
  clear ha hb hB han hbn hva hvb
  generalize a.nm = an at *
  generalize a.args.length = al at *
  generalize b.nm = bn at *
  generalize b.args.length = bl at *
  obtain ⟨y1, y2, y3, y4, y5⟩ := H2.out.two
  go_enter Tryz.func29, Tryz.ntmps29
  go_upto_region 1 with fail
  rw [← hW2]
  clear hW2
  go_wp2_with fail
  refine (VA.out _ B2.out).mono ?_
  rintro e w3 ⟨rfl, g3⟩
  have D3 := Lib.hid (next0 B2.out g3.1)
  have T3 := Lib.hid (T2.out.step0 g3.1)
  clear VA g3 H2 T2 B2 y1 y2 y3 y4 y5
  cases va
  · go_wp2_with fail
    refine bodyPost_ret (v := .tuple #[.slice none 0 0, .bool false]) (by simp [results, Tryz.results29, go_sem]) rfl ?_
    unfold MtR
    exact ⟨_, false, rfl, (fun h => by cases h), (fun _ => ⟨rfl, rfl⟩), D3.out⟩
  · have e : vb = false := by simpa using hV
    subst e
    obtain ⟨z1, z2, _⟩ := T3.out.two
    go_wp2_with fail
    refine (VB.out _ D3.out).mono ?_
    rintro e w4 ⟨rfl, g4⟩
    have D4 := Lib.hid (next0 D3.out g4.1)
    go_wp2_with fail
    refine bodyPost_ret (v := .tuple #[.slice none 0 0, .bool false]) (by simp [results, Tryz.results29, go_sem]) rfl ?_
    unfold MtR
    exact ⟨_, false, rfl, (fun h => by cases h), (fun _ => ⟨rfl, rfl⟩), D4.out⟩
theorem cunify_any (n : Nat) (a b : Tm) (o : Option (List Bd)) (ho : unifyP n a b = some o) (hbad : (V a ∧ V b → False) → o = none) (hD : V a → V b → ∀ D r, joinP n [] a b = some (D, r) → D.length ≤ sizeT a + sizeT b) (za : sizeT a ≤ 400) (zb : sizeT b ≤ 400)
    (B : Nat) (w : World) (av bv : Value) (hw : Wd w) (hg : 0 < B) (hB : B ≤ w.heap.size) (ha : SlIn (· < B) w a.args av) (hb : SlIn (· < B) w b.args bv) (han : a.nm.size ≤ maxLen) (hbn : b.nm.size ≤ maxLen) :
    Calls Tryz.prog 29 #[.agg #[.string a.nm, av], .agg #[.string b.nm, bv]] w (MtR o w) := by
  by_cases hV : V a ∧ V b
  · exact unify_any sortc n a b o ho (valid_ok hV.1 han za) (valid_ok hV.2 hbn zb) (by omega) (fun D r h => by have := hD hV.1 hV.2 D r h; omega) B w av bv hw hg hB ha hb
  · rw [hbad hV]
    refine cunify_bad a b ?_ B w av bv hB ha hb han hbn
    cases h1 : validT false 4 a
    · rfl
    · cases h2 : validT false 4 b
      · rfl
      · exact absurd ⟨h1, h2⟩ hV
set_option maxRecDepth 100000 in
set_option maxHeartbeats 3200000 in
theorem unifies (a b : Tm) (w : World) (av bv : Value) (ha : SlIn (· < w.heap.size) w a.args av) (hb : SlIn (· < w.heap.size) w b.args bv) (han : a.nm.size ≤ maxLen) (hbn : b.nm.size ≤ maxLen) (hw : Wd w) (AW : Aw w) :
    Calls Tryz.prog 6 #[.agg #[.string a.nm, av], .agg #[.string b.nm, bv]] w fun e w' => e = .returned (.bool true) ∧ Below w.heap.size w w' := by
  obtain ⟨p1, c1, rfl⟩ := ha.form
  obtain ⟨p2, c2, rfl⟩ := hb.form
  obtain ⟨n, m, q, o, u1, u2, u3, _, u5, u6, u7⟩ := unify_both a b
  obtain ⟨W2, hW2⟩ : ∃ W2, W2 = (w.alloc (.cells #[.string a.nm, .slice p1 a.args.length c1] 27)).alloc (.cells #[.string b.nm, .slice p2 b.args.length c2] 27) := ⟨_, rfl⟩
  have G2 : Gr w W2 := by rw [hW2]; exact (Gr.alloc _ _).more _
  have H2 : Hid (Has W2 w.heap.size #[.string a.nm, .slice p1 a.args.length c1]) := Lib.hid (by rw [hW2]; exact (Has.new w _ _).alloc _)
  have T2 : Hid (Has W2 (w.heap.size + 1) #[.string b.nm, .slice p2 b.args.length c2]) := Lib.hid (by rw [hW2]; exact Has.new1 w _ _ _)
  have C1 := Lib.hid (fun w' (k : Below w.heap.size w w') => UniV.small_any a w.heap.size w' _ k.size (ha.deep k (Nat.le_refl _)))
  have C2 := Lib.hid (fun w' (k : Below w.heap.size w w') => UniV.small_any b w.heap.size w' _ k.size (hb.deep k (Nat.le_refl _)))
  have CM := Lib.hid (fun (h1 : partsT 100 100 a ≤ 100) (h2 : partsT 100 100 b ≤ 100) w' (k : Below w.heap.size w w') => cunify_any n a b o u1 u5 u6 (by have := size_of h1; omega) (by have := size_of h2; omega) w.heap.size w' _ _ (hw.below k hw.1) hw.1 k.size (ha.deep k (Nat.le_refl _)) (hb.deep k (Nat.le_refl _)) han hbn)
  have CN := Lib.hid (fun (h1 : partsT 100 100 a ≤ 100) (h2 : partsT 100 100 b ≤ 100) w' (k : Below w.heap.size w w') => cunify_any m b a o u2 (fun h => u5 fun hh => h ⟨hh.2, hh.1⟩) (fun h1 h2 => u7 h2 h1) (by have := size_of h2; omega) (by have := size_of h1; omega) w.heap.size w' _ _ (hw.below k hw.1) hw.1 k.size (hb.deep k (Nat.le_refl _)) (ha.deep k (Nat.le_refl _)) hbn han)
  have CR := Lib.hid (fun (h1 : partsT 100 100 a ≤ 100) (h2 : partsT 100 100 b ≤ 100) w' (k : Below w.heap.size w w') => runify_any q a b o u3 (by have := size_of h1; have := size_of h2; omega) w.heap.size w' _ _ k.size (ha.deep k (Nat.le_refl _)) (hb.deep k (Nat.le_refl _)) han hbn)
  have GG := Lib.hid G2
  have AW' := Lib.hid AW
  have HH := Lib.hid (fun w' (k : Below W2.heap.size W2 w') => And.intro (H2.out.step0 k).two (T2.out.step0 k).two)
  clear ha hb han hbn AW H2 T2 G2 u1 u2 u3 u5 u6 u7 hw
  obtain ⟨b1, hb1⟩ : ∃ b, decide (partsT 100 100 a ≤ 100) = b := ⟨_, rfl⟩
  obtain ⟨b2, hb2⟩ : ∃ z, decide (partsT 100 100 b ≤ 100) = z := ⟨_, rfl⟩
  rw [hb1] at C1
  rw [hb2] at C2
  have CR := Lib.hid (fun (h : b1 = true) (h' : b2 = true) => CR.out (by rw [h, decide_eq_true_eq] at hb1; exact hb1) (by rw [h', decide_eq_true_eq] at hb2; exact hb2))
  have CM := Lib.hid (fun (h : b1 = true) (h' : b2 = true) => CM.out (by rw [h, decide_eq_true_eq] at hb1; exact hb1) (by rw [h', decide_eq_true_eq] at hb2; exact hb2))
  have CN := Lib.hid (fun (h : b1 = true) (h' : b2 = true) => CN.out (by rw [h, decide_eq_true_eq] at hb1; exact hb1) (by rw [h', decide_eq_true_eq] at hb2; exact hb2))
  clear hb1 hb2
  generalize a.nm = pn at *
  generalize a.args.length = pa at *
  generalize b.nm = tn at *
  generalize b.args.length = ta at *
  unfold MtR at CM CR CN
  unfold Aw at AW'
  obtain ⟨⟨y1, y2, _⟩, z1, z2, _⟩ := HH.out _ (Below.refl _ _)
  go_enter Tryz.func6, Tryz.ntmps6
  go_upto_region 1 with fail
  rw [← hW2]
  clear hW2
  go_wp2_with fail
  refine (C1.out _ GG.out.1).mono ?_
  rintro e w3 ⟨rfl, g3⟩
  have D3 := Lib.hid (next0 GG.out.1 g3.1)
  have K3 := Lib.hid g3.1
  clear g3 y1 y2 z1 z2
  obtain ⟨⟨y1, y2, _⟩, z1, z2, _⟩ := HH.out _ K3.out
  cases b1
  · clear CM CR CN C1 C2
    go_wp2_with fail
    refine (AW'.out _ D3.out).mono ?_
    rintro e w4 ⟨rfl, k4⟩
    have D4 := Lib.hid (next0 D3.out k4)
    go_wp2_with fail
    go_ret
    exact ⟨rfl, D4.out⟩
  · go_wp2_with fail
    refine (C2.out _ D3.out).mono ?_
    rintro e w4 ⟨rfl, g4⟩
    have D4 := Lib.hid (next0 D3.out g4.1)
    have K4 := Lib.hid (next0 K3.out g4.1)
    clear g4 y1 y2 z1 z2
    obtain ⟨⟨y1, y2, _⟩, z1, z2, _⟩ := HH.out _ K4.out
    cases b2
    · clear CM CR CN C1 C2
      go_wp2_with fail
      refine (AW'.out _ D4.out).mono ?_
      rintro e w5 ⟨rfl, k5⟩
      have D5 := Lib.hid (next0 D4.out k5)
      go_wp2_with fail
      go_ret
      exact ⟨rfl, D5.out⟩
    · have CM4 := Lib.hid (CM.out (by trivial) (by trivial))
      have CN4 := Lib.hid (CN.out (by trivial) (by trivial))
      have CR4 := Lib.hid (CR.out (by trivial) (by trivial))
      clear CM CN CR
      go_wp2_with fail
      refine (CM4.out _ D4.out).mono ?_
      rintro e w5 ⟨v5, f5, rfl, h1, h2, k5⟩
      have D5 := Lib.hid (next0 D4.out k5)
      have K5 := Lib.hid (next0 K4.out k5)
      have M5 := Lib.hid (And.intro h1 h2)
      clear h1 h2 k5 y1 y2 z1 z2
      obtain ⟨⟨y1, y2, _⟩, z1, z2, _⟩ := HH.out _ K5.out
      go_wp2_with fail
      refine (CR4.out _ D5.out).mono ?_
      rintro e w6 ⟨v6, f6, rfl, h1, h2, k6⟩
      have D6 := Lib.hid (next0 D5.out k6)
      have K6 := Lib.hid (next0 K5.out k6)
      have B6 := Lib.hid k6
      have M6 := Lib.hid (And.intro h1 h2)
      clear h1 h2 k6 y1 y2 z1 z2
      obtain ⟨⟨y1, y2, _⟩, z1, z2, _⟩ := HH.out _ K6.out
      go_wp2_with fail
      refine (CN4.out _ D6.out).mono ?_
      rintro e w7 ⟨v7, f7, rfl, h1, h2, k7⟩
      have D7 := Lib.hid (next0 D6.out k7)
      have B7 := Lib.hid k7
      have B57 := Lib.hid (next0 B6.out k7)
      have M7 := Lib.hid (And.intro h1 h2)
      clear h1 h2 k7 y1 y2 z1 z2
      have key : Hid (f5 = f6 ∧ f5 = f7 ∧ ∃ s9, SIn (· < w7.heap.size) w7 s9 v5 ∧ SIn (· < w7.heap.size) w7 s9 v6 ∧ SIn (· < w7.heap.size) w7 s9 v7) := Lib.hid (by
        have lift : ∀ {w1 : World} {s9 : List Bd} {v : Value}, SIn (· < w1.heap.size) w1 s9 v → Below w1.heap.size w1 w7 → SIn (· < w7.heap.size) w7 s9 v := fun h k => (h.deep k (Nat.le_refl _)).wide fun b hb => Nat.lt_of_lt_of_le hb k.size
        cases f5
        · obtain ⟨ho, hv⟩ := M5.out.2 rfl
          cases f6
          · cases f7
            · rw [hv, (M6.out.2 rfl).2, (M7.out.2 rfl).2]
              exact ⟨rfl, rfl, [], SIn.nil _ _, SIn.nil _ _, SIn.nil _ _⟩
            · obtain ⟨s9, h9, _⟩ := M7.out.1 rfl
              rw [ho] at h9
              cases h9
          · obtain ⟨s9, h9, _⟩ := M6.out.1 rfl
            rw [ho] at h9
            cases h9
        · obtain ⟨s9, h9, hI⟩ := M5.out.1 rfl
          cases f6
          · rw [(M6.out.2 rfl).1] at h9
            cases h9
          · cases f7
            · rw [(M7.out.2 rfl).1] at h9
              cases h9
            · obtain ⟨s8, h8, hI8⟩ := M6.out.1 rfl
              obtain ⟨s7, h7, hI7⟩ := M7.out.1 rfl
              rw [h9] at h8 h7
              cases h8
              cases h7
              exact ⟨rfl, rfl, s9, lift hI B57.out, lift hI8 B7.out, hI7⟩)
      obtain ⟨rfl, rfl, s9, hI5, hI6, hI7⟩ := key.out
      have SA := Lib.hid (same_any s9 s9 true (by simp) w7.heap.size w7 v5 v6 (Nat.le_refl _) hI5 hI6)
      have SB := Lib.hid (fun w' (k : Below w7.heap.size w7 w') => same_any s9 s9 true (by simp) w7.heap.size w' v5 v7 k.size (hI5.deep k (Nat.le_refl _)) (hI7.deep k (Nat.le_refl _)))
      clear hI5 hI6 hI7 key M5 M6 M7 CM4 CN4 CR4
      have hff : (f5 == f5) = true := by simp
      go_wp2_with fail
      refine SA.out.mono ?_
      rintro e w8 ⟨rfl, g8⟩
      have D8 := Lib.hid (next0 D7.out g8.1)
      have SB8 := Lib.hid (SB.out w8 g8.1)
      clear g8 SA SB
      go_wp2_with fail
      refine SB8.out.mono ?_
      rintro e w9 ⟨rfl, g9⟩
      have D9 := Lib.hid (next0 D8.out g9.1)
      clear g9 SB8
      cases f5
      all_goals
        go_wp2_with fail
        refine (AW'.out _ D9.out).mono ?_
        rintro e w10 ⟨rfl, k10⟩
        have D10 := Lib.hid (next0 D9.out k10)
        go_wp2_with fail
        go_ret
        exact ⟨rfl, D10.out⟩
end UnuL
end Go.Proofs.YtaenalpckloikaaGreatDoor
