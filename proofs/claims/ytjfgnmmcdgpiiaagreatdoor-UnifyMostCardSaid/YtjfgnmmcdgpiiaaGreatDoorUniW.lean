/- The walk of UnifyMatches, awake's contract as a premise. No other conditions. -/
import Derived.Test.YtjfgnmmcdgpiiaaGreatDoorUniT
import Derived.Test.YtjfgnmmcdgpiiaaGreatDoorUniV
namespace Go.Proofs.YtjfgnmmcdgpiiaaGreatDoor
open Go Go.RowKit
namespace UniW
open LexM TermM TermI Kit TermN TermS TermU TermH UniK UniM UniA UniB UniC UniD UniE UniG UniJ UniO UniL UniP UniQ UniT UniV
/-- What awake leaves. -/
def Aw (w : World) : Prop := ∀ w', Below w.heap.size w w' → Calls Tryz.prog 13 #[] w' fun e w'' => e = .returned (.bool true) ∧ Below w'.heap.size w' w''
theorem size_of {t : Tm} (h : partsT 100 100 t ≤ 100) : sizeT t ≤ 100 := by
  have := (parts_size 100 100 t h).1
  omega
set_option maxRecDepth 100000 in
set_option maxHeartbeats 3200000 in
theorem matches_ (p t : Tm) (s : List Bd) (w : World) (sv pv tv : Value) (hs : SIn (· < w.heap.size) w s sv) (hp : SlIn (· < w.heap.size) w p.args pv) (ht : SlIn (· < w.heap.size) w t.args tv) (hpn : p.nm.size ≤ maxLen) (htn : t.nm.size ≤ maxLen) (AW : Aw w) :
    Calls Tryz.prog 5 #[.agg #[.string p.nm, pv], .agg #[.string t.nm, tv], sv] w fun e w' => e = .returned (.bool true) ∧ Below w.heap.size w w' := by
  obtain ⟨p1, c1, rfl⟩ := hp.form
  obtain ⟨p2, c2, rfl⟩ := ht.form
  obtain ⟨W2, hW2⟩ : ∃ W2, W2 = (w.alloc (.cells #[.string p.nm, .slice p1 p.args.length c1] 27)).alloc (.cells #[.string t.nm, .slice p2 t.args.length c2] 27) := ⟨_, rfl⟩
  have G2 : Gr w W2 := by rw [hW2]; exact (Gr.alloc _ _).more _
  have H2 : Hid (Has W2 w.heap.size #[.string p.nm, .slice p1 p.args.length c1]) := Lib.hid (by rw [hW2]; exact (Has.new w _ _).alloc _)
  have T2 : Hid (Has W2 (w.heap.size + 1) #[.string t.nm, .slice p2 t.args.length c2]) := Lib.hid (by rw [hW2]; exact Has.new1 w _ _ _)
  have CF := Lib.hid (fun w' (k : Below w.heap.size w w') => few_any s w.heap.size w' sv k.size (hs.deep k (Nat.le_refl _)))
  have C1 := Lib.hid (fun w' (k : Below w.heap.size w w') => UniV.small_any p w.heap.size w' _ k.size (hp.deep k (Nat.le_refl _)))
  have C2 := Lib.hid (fun w' (k : Below w.heap.size w w') => UniV.small_any t w.heap.size w' _ k.size (ht.deep k (Nat.le_refl _)))
  have CM := Lib.hid (fun (h1 : SmS s) (h2 : partsT 100 100 t ≤ 100) w' (k : Below w.heap.size w w') => match_any p t s (by have := size_of h2; omega) (fun y hy => by have := size_of (h1.2 y hy); omega) w.heap.size w' sv _ _ k.size (hs.deep k (Nat.le_refl _)) (hp.deep k (Nat.le_refl _)) (ht.deep k (Nat.le_refl _)) hpn htn)
  have CR := Lib.hid (fun (h1 : partsT 100 100 p ≤ 100) w' (k : Below w.heap.size w w') => rmatch_any p t s (by have := size_of h1; omega) w.heap.size w' sv _ _ k.size (hs.deep k (Nat.le_refl _)) (hp.deep k (Nat.le_refl _)) (ht.deep k (Nat.le_refl _)) hpn htn)
  have GG := Lib.hid G2
  have AW' := Lib.hid AW
  have HH := Lib.hid (fun w' (k : Below W2.heap.size W2 w') => And.intro (H2.out.step0 k).two (T2.out.step0 k).two)
  clear hs hp ht hpn htn AW H2 T2 G2
  obtain ⟨b1, hb1⟩ : ∃ b, decide (partsT 100 100 p ≤ 100) = b := ⟨_, rfl⟩
  obtain ⟨b2, hb2⟩ : ∃ b, decide (partsT 100 100 t ≤ 100) = b := ⟨_, rfl⟩
  rw [hb1] at C1
  rw [hb2] at C2
  have CR := Lib.hid (fun (h : b1 = true) => CR.out (by rw [h, decide_eq_true_eq] at hb1; exact hb1))
  have CM := Lib.hid (fun (hs : SmS s) (h : b2 = true) => CM.out hs (by rw [h, decide_eq_true_eq] at hb2; exact hb2))
  clear hb1 hb2
  generalize matchP p t s = o9 at *
  generalize p.nm = pn at *
  generalize p.args.length = pa at *
  generalize t.nm = tn at *
  generalize t.args.length = ta at *
  unfold FewS at CF
  unfold MtR at CM CR
  unfold Aw at AW'
  obtain ⟨⟨y1, y2, _⟩, z1, z2, _⟩ := HH.out _ (Below.refl _ _)
  go_enter Tryz.func5, Tryz.ntmps5
  go_upto_region 1 with fail
  rw [← hW2]
  clear hW2
  go_wp2_with fail
  refine (CF.out _ GG.out.1).mono ?_
  rintro e w3 ⟨b, rfl, hsm, g3⟩
  have D3 := Lib.hid (next0 GG.out.1 g3.1)
  have K3 := Lib.hid g3.1
  have SM := Lib.hid hsm
  clear g3 hsm y1 y2 z1 z2
  obtain ⟨⟨y1, y2, _⟩, z1, z2, _⟩ := HH.out _ K3.out
  cases b
  · clear CM CR C1 C2
    go_wp2_with fail
    refine (AW'.out _ D3.out).mono ?_
    rintro e w4 ⟨rfl, k4⟩
    have D4 := Lib.hid (next0 D3.out k4)
    go_wp2_with fail
    go_ret
    exact ⟨rfl, D4.out⟩
  · have CN := Lib.hid (CM.out (SM.out rfl))
    clear CM
    go_wp2_with fail
    refine (C1.out _ D3.out).mono ?_
    rintro e w4 ⟨rfl, g4⟩
    have D4 := Lib.hid (next0 D3.out g4.1)
    have K4 := Lib.hid (next0 K3.out g4.1)
    clear g4 y1 y2 z1 z2
    obtain ⟨⟨y1, y2, _⟩, z1, z2, _⟩ := HH.out _ K4.out
    cases b1
    · clear CN CR C1 C2
      go_wp2_with fail
      refine (AW'.out _ D4.out).mono ?_
      rintro e w5 ⟨rfl, k5⟩
      have D5 := Lib.hid (next0 D4.out k5)
      go_wp2_with fail
      go_ret
      exact ⟨rfl, D5.out⟩
    · have CS := Lib.hid (CR.out (by trivial))
      clear CR
      go_wp2_with fail
      refine (C2.out _ D4.out).mono ?_
      rintro e w5 ⟨rfl, g5⟩
      have D5 := Lib.hid (next0 D4.out g5.1)
      have K5 := Lib.hid (next0 K4.out g5.1)
      clear g5 y1 y2 z1 z2
      obtain ⟨⟨y1, y2, _⟩, z1, z2, _⟩ := HH.out _ K5.out
      cases b2
      · clear CN CS C1 C2
        go_wp2_with fail
        refine (AW'.out _ D5.out).mono ?_
        rintro e w6 ⟨rfl, k6⟩
        have D6 := Lib.hid (next0 D5.out k6)
        go_wp2_with fail
        go_ret
        exact ⟨rfl, D6.out⟩
      · have CO := Lib.hid (CN.out (by trivial))
        go_wp2_with fail
        refine (CO.out _ D5.out).mono ?_
        rintro e w6 ⟨v6, f6, rfl, h1, h2, k6⟩
        have D6 := Lib.hid (next0 D5.out k6)
        have K6 := Lib.hid (next0 K5.out k6)
        have M1 := Lib.hid (And.intro h1 h2)
        clear h1 h2 k6 y1 y2 z1 z2
        obtain ⟨⟨y1, y2, _⟩, z1, z2, _⟩ := HH.out _ K6.out
        go_wp2_with fail
        refine (CS.out _ D6.out).mono ?_
        rintro e w7 ⟨v7, f7, rfl, h1, h2, k7⟩
        have D7 := Lib.hid (next0 D6.out k7)
        have M2 := Lib.hid (And.intro h1 h2)
        have BW := Lib.hid k7
        clear h1 h2 k7 y1 y2 z1 z2
        have key : Hid (f6 = f7 ∧ ∃ s9, SIn (· < w7.heap.size) w7 s9 v6 ∧ SIn (· < w7.heap.size) w7 s9 v7) := Lib.hid (by
          cases f6
          · obtain ⟨ho, hv⟩ := M1.out.2 rfl
            cases f7
            · obtain ⟨ho', hv'⟩ := M2.out.2 rfl
              rw [hv, hv']
              exact ⟨rfl, [], SIn.nil _ _, SIn.nil _ _⟩
            · obtain ⟨s9, h9, _⟩ := M2.out.1 rfl
              rw [ho] at h9
              cases h9
          · obtain ⟨s9, h9, hI⟩ := M1.out.1 rfl
            cases f7
            · obtain ⟨ho', hv'⟩ := M2.out.2 rfl
              rw [ho'] at h9
              cases h9
            · obtain ⟨s8, h8, hI8⟩ := M2.out.1 rfl
              rw [h9] at h8
              cases h8
              exact ⟨rfl, s9, (hI.deep BW.out (Nat.le_refl _)).wide fun b hb => Nat.lt_of_lt_of_le hb BW.out.size, hI8⟩)
        obtain ⟨rfl, s9, hI6, hI7⟩ := key.out
        have SA := Lib.hid (same_any s9 s9 true (by simp) w7.heap.size w7 v6 v7 (Nat.le_refl _) hI6 hI7)
        clear hI6 hI7 key M1 M2 CN CS
        have hff : (f6 == f6) = true := by simp
        go_wp2_with fail
        refine SA.out.mono ?_
        rintro e w8 ⟨rfl, g8⟩
        have D8 := Lib.hid (next0 D7.out g8.1)
        clear g8
        cases f6
        all_goals
          go_wp2_with fail
          refine (AW'.out _ D8.out).mono ?_
          rintro e w9 ⟨rfl, k9⟩
          have D9 := Lib.hid (next0 D8.out k9)
          go_wp2_with fail
          go_ret
          exact ⟨rfl, D9.out⟩
end UniW
end Go.Proofs.YtjfgnmmcdgpiiaaGreatDoor
