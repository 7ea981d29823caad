/- Texts laid together: UnuN. Their own heads stand before each. -/
import Derived.Test.YtjfgnmmcdgpiiaaGreatDoorGM2
import Derived.Test.YtjfgnmmcdgpiiaaGreatDoorGM3
import Derived.Deep.RegionLaw
import Derived.Deep.DeepCutAuto
import Derived.Deep.RegionHeld3
/- The walk of UnifyMost, awake's contract as a premise. Condition: the variable nameEnds holds its bytes. -/
namespace Go.Proofs.YtjfgnmmcdgpiiaaGreatDoor
open Go Go.RowKit
namespace UnuN
open LexM TermM TermI Kit TermN TermS TermU TermL UniK UniM UniA UniB UniC UniD UniE UniG UniH UniJ UniO UniL UniP UniR UniT UniV UniW TermT UnmA UnmB UnmE UnmF UnmG UnuA UnuB UnuD UnuE UnuF UnuG UnuJ UnuK UnuL UnuM
theorem valid_nm {d : Nat} {t : Tm} (h : validT false d t = true) : t.nm.size ≤ maxLen := by
  obtain ⟨n, l⟩ := t
  cases d with
  | zero => simp [validT] at h
  | succ d =>
    have := (TermU1.valid_parts h).2.1
    have e : n.size = n.data.toList.length := by rw [Array.length_toList]; rfl
    show n.size ≤ maxLen
    unfold maxLen
    omega
theorem okz {a b c : Nat} (h : a ≤ b) : ∀ k, (k < a ∨ (c ≤ k ∧ k < b)) → k < b := fun _ hk => hk.elim (fun h1 => Nat.lt_of_lt_of_le h1 h) (·.2)
theorem u1_ok {a b : Tm} {s : List Bd} {n : ByteArray} (hC : Canon a b s) (hv : varB n = true) : validT false 8 (appT s (.mk n [])) = true := by
  rw [app_sub hC.1.2.1, sub_var _ hv]
  exact valid_mono (d := 4) (by omega) (asF_valid (by omega) hC.1.2.2.1 hv)
theorem okq {a lo hi c : Nat} (h1 : a ≤ c) (h2 : hi ≤ c) : ∀ b, (b < a ∨ (lo ≤ b ∧ b < hi)) → b < c := fun _ hb => hb.elim (fun h => Nat.lt_of_lt_of_le h h1) fun h => Nat.lt_of_lt_of_le h.2 h2
theorem okn {a lo hi g : Nat} (h1 : a ≤ g) (h2 : g < lo ∨ hi ≤ g) : ∀ b, (b < a ∨ (lo ≤ b ∧ b < hi)) → b ≠ g := fun b hb => by omega
/-- A block that was made before a call is there behind it. -/
theorem has_one {v w' : World} {cs : Array Value} {t : TypeId} (k : Below (v.alloc (.cells cs t)).heap.size (v.alloc (.cells cs t)) w') : Has w' v.heap.size cs := (Has.new _ _ _).step0 k
theorem has_two {v w' : World} {cs ds : Array Value} {t u : TypeId} (k : Below ((v.alloc (.cells cs t)).alloc (.cells ds u)).heap.size ((v.alloc (.cells cs t)).alloc (.cells ds u)) w') : Has w' v.heap.size cs := ((Has.new _ _ _).alloc _).step0 k
theorem has_twoB {v w' : World} {cs ds : Array Value} {t u : TypeId} (k : Below ((v.alloc (.cells cs t)).alloc (.cells ds u)).heap.size ((v.alloc (.cells cs t)).alloc (.cells ds u)) w') : Has w' (v.heap.size + 1) ds := (Has.new1 _ _ _ _).step0 k
set_option maxRecDepth 100000 in
set_option maxHeartbeats 25600000 in
theorem most (a b : Tm) (t : List Bd) (w : World) (av bv tv : Value) (ha : SlIn (· < w.heap.size) w a.args av) (hb : SlIn (· < w.heap.size) w b.args bv) (ht : SIn (· < w.heap.size) w t tv) (han : a.nm.size ≤ maxLen) (hbn : b.nm.size ≤ maxLen) (hw : Wd w) (AW : Aw w) :
    Calls Tryz.prog 9 #[.agg #[.string a.nm, av], .agg #[.string b.nm, bv], tv] w fun e w' => e = .returned (.bool true) ∧ Below w.heap.size w w' := by
  obtain ⟨p1, c1, rfl⟩ := ha.form
  obtain ⟨p2, c2, rfl⟩ := hb.form
  obtain ⟨pt, ct, rfl, hct, hmt, hRT⟩ := SIn.row ht
  obtain ⟨n, _, _, o, u1, _, _, u4, u5, u6, _⟩ := unify_both a b
  obtain ⟨W2, hW2⟩ : ∃ W2, W2 = (w.alloc (.cells #[.string a.nm, .slice p1 a.args.length c1] 27)).alloc (.cells #[.string b.nm, .slice p2 b.args.length c2] 27) := ⟨_, rfl⟩
  have G2 : Gr w W2 := by rw [hW2]; exact (Gr.alloc _ _).more _
  have hs2 : w.heap.size + 2 ≤ W2.heap.size := by rw [hW2]; simp
  have H2 : Hid (Has W2 w.heap.size #[.string a.nm, .slice p1 a.args.length c1]) := Lib.hid (by rw [hW2]; exact (Has.new w _ _).alloc _)
  have T2 : Hid (Has W2 (w.heap.size + 1) #[.string b.nm, .slice p2 b.args.length c2]) := Lib.hid (by rw [hW2]; exact Has.new1 w _ _ _)
  have CF := Lib.hid (fun w' (k : Below w.heap.size w w') => few_any t w.heap.size w' _ k.size (ht.deep k (Nat.le_refl _)))
  have C1 := Lib.hid (fun w' (k : Below w.heap.size w w') => UniV.small_any a w.heap.size w' _ k.size (ha.deep k (Nat.le_refl _)))
  have C2 := Lib.hid (fun w' (k : Below w.heap.size w w') => UniV.small_any b w.heap.size w' _ k.size (hb.deep k (Nat.le_refl _)))
  have CM := Lib.hid (fun (h1 : partsT 100 100 a ≤ 100) (h2 : partsT 100 100 b ≤ 100) w' (k : Below w.heap.size w w') => cunify_any n a b o u1 u5 u6 (by have := size_of h1; omega) (by have := size_of h2; omega) w.heap.size w' _ _ (hw.below k hw.1) hw.1 k.size (ha.deep k (Nat.le_refl _)) (hb.deep k (Nat.le_refl _)) han hbn)
  have VT := Lib.hid (fun w' (k : Below w.heap.size w w') => rvalid_any t w.heap.size w' _ k.size (ht.deep k (Nat.le_refl _)))
  have VA := Lib.hid (fun w' (k : Below w.heap.size w w') => TermV.rvalid_any a w.heap.size w' _ k.size han (ha.deep k (Nat.le_refl _)))
  have VB := Lib.hid (fun w' (k : Below w.heap.size w w') => TermV.rvalid_any b w.heap.size w' _ k.size hbn (hb.deep k (Nat.le_refl _)))
  have AA := Lib.hid (fun (s : List Bd) (hV : ∀ b ∈ s, varB b.1 = true) (h1 : partsT 100 100 a ≤ 100) (B : Nat) (hB : w.heap.size ≤ B) w' (k : Below w.heap.size w w') (hBw : B ≤ w'.heap.size) q (hq : SIn (· < B) w' s q) => (rapply_any s hV a B w' q _ hBw hq ((ha.deep k (Nat.le_refl _)).weaken fun b hb => Nat.lt_of_lt_of_le hb hB) han (by have := size_of h1; omega)).mono (fun e w'' ⟨q, d, h1, h2, h3, h4⟩ => (⟨q, d, w'.heap.size, h1, rfl, h2, h3, h4⟩ : ∃ (q : Option Addr) (d lo : Nat), e = Ending.returned (.agg #[.string (appT s a).nm, .slice q (appT s a).args.length d]) ∧ lo = w'.heap.size ∧ SlIn (fun b => b < B ∨ (lo ≤ b ∧ b < w''.heap.size)) w'' (appT s a).args (.slice q (appT s a).args.length d) ∧ (appT s a).nm.size ≤ maxLen ∧ Below w'.heap.size w' w'')))
  have AB := Lib.hid (fun (s : List Bd) (hV : ∀ b ∈ s, varB b.1 = true) (h1 : partsT 100 100 b ≤ 100) (B : Nat) (hB : w.heap.size ≤ B) w' (k : Below w.heap.size w w') (hBw : B ≤ w'.heap.size) q (hq : SIn (· < B) w' s q) => (rapply_any s hV b B w' q _ hBw hq ((hb.deep k (Nat.le_refl _)).weaken fun b hb => Nat.lt_of_lt_of_le hb hB) hbn (by have := size_of h1; omega)).mono (fun e w'' ⟨q, d, h1, h2, h3, h4⟩ => (⟨q, d, w'.heap.size, h1, rfl, h2, h3, h4⟩ : ∃ (q : Option Addr) (d lo : Nat), e = Ending.returned (.agg #[.string (appT s b).nm, .slice q (appT s b).args.length d]) ∧ lo = w'.heap.size ∧ SlIn (fun b => b < B ∨ (lo ≤ b ∧ b < w''.heap.size)) w'' (appT s b).args (.slice q (appT s b).args.length d) ∧ (appT s b).nm.size ≤ maxLen ∧ Below w'.heap.size w' w'')))
  have ST := Lib.hid (fun w' (k : Below w.heap.size w w') => (ht.deep k (Nat.le_refl _)).wide (ok' := (· < w'.heap.size)) fun b hb => Nat.lt_of_lt_of_le hb k.size)
  have RT := Lib.hid (fun w' (k : Below w.heap.size w w') => hRT.deep k (Nat.le_refl _))
  have CT := Lib.hid (fun (u : Tm) (q q' : Value) w' (h : SlIn (· < w'.heap.size) w' u.args q) (h' : SlIn (· < w'.heap.size) w' u.args q') => TermEq.term_any u true w'.heap.size w' q u q' (by simp) (Nat.le_refl _) h h')
  have CT2 := Lib.hid (fun (u v : Tm) (q q' : Value) w' (h : SlIn (· < w'.heap.size) w' u.args q) (h' : SlIn (· < w'.heap.size) w' v.args q') => TermEq.term_any u (cmpT u v == 0) w'.heap.size w' q v q' (by rw [beq_iff_eq, cmp_zero]) (Nat.le_refl _) h h')
  have SP := Lib.hid (fun (ha : V a) (hb : V b) => (u4 ha hb).2)
  have NB := Lib.hid u5
  have GG := Lib.hid G2
  have AW' := Lib.hid AW
  have HH := Lib.hid (fun w' (k : Below W2.heap.size W2 w') => And.intro (H2.out.step0 k) (T2.out.step0 k))
  have hlt : t.length ≤ maxLen := Nat.le_trans hct hmt
  clear ha hb ht han hbn AW H2 T2 G2 u1 u4 u5 u6 hw hRT hct hmt
  obtain ⟨b1, hb1⟩ : ∃ b, decide (partsT 100 100 a ≤ 100) = b := ⟨_, rfl⟩
  obtain ⟨b2, hb2⟩ : ∃ z, decide (partsT 100 100 b ≤ 100) = z := ⟨_, rfl⟩
  obtain ⟨vt, hvt⟩ : ∃ z, vldS t = z := ⟨_, rfl⟩
  obtain ⟨va, hva⟩ : ∃ z, validT false 4 a = z := ⟨_, rfl⟩
  obtain ⟨vb, hvb⟩ : ∃ z, validT false 4 b = z := ⟨_, rfl⟩
  rw [hb1] at C1
  rw [hb2] at C2
  rw [hvt] at VT
  rw [hva] at VA
  rw [hvb] at VB
  have HB1 := Lib.hid hb1
  have HB2 := Lib.hid hb2
  have HVT := Lib.hid hvt
  have HVA := Lib.hid hva
  have HVB := Lib.hid hvb
  clear hb1 hb2 hvt hva hvb
  generalize a.nm = an at *
  generalize a.args.length = al at *
  generalize b.nm = bn at *
  generalize b.args.length = bl at *
  generalize htl : t.length = tl at *
  have HTL := Lib.hid htl
  clear htl
  unfold MtR at CM
  unfold FewS at CF
  unfold Aw at AW'
  obtain ⟨y1, y2, _⟩ := (HH.out _ (Below.refl _ _)).1.two
  obtain ⟨z1, z2, _⟩ := (HH.out _ (Below.refl _ _)).2.two
  go_enter Tryz.func9, Tryz.ntmps9
  go_upto_region 1 with fail
  rw [← hW2]
  clear hW2
  go_wp2_with fail
  refine (CF.out _ GG.out.1).mono ?_
  rintro e w3 ⟨bf, rfl, hsm, g3⟩
  have D3 := Lib.hid (next0 GG.out.1 g3.1)
  have K3 := Lib.hid g3.1
  have SM := Lib.hid hsm
  clear g3 hsm y1 y2 z1 z2 CF
  cases bf
  · clear CM C1 C2 VT VA VB AA AB ST RT CT CT2 SP NB
    go_wp2_with fail
    refine (AW'.out _ D3.out).mono ?_
    rintro e w4 ⟨rfl, k4⟩
    have D4 := Lib.hid (next0 D3.out k4)
    go_wp2_with fail
    go_ret
    exact ⟨rfl, D4.out⟩
  have SMt := Lib.hid (SM.out rfl)
  clear SM
  obtain ⟨y1, y2, _⟩ := (HH.out _ K3.out).1.two
  obtain ⟨z1, z2, _⟩ := (HH.out _ K3.out).2.two
  go_wp2_with fail
  refine (C1.out _ D3.out).mono ?_
  rintro e w4 ⟨rfl, g4⟩
  have D4 := Lib.hid (next0 D3.out g4.1)
  have K4 := Lib.hid (next0 K3.out g4.1)
  clear g4 y1 y2 z1 z2 C1
  cases b1
  · clear CM C2 VT VA VB AA AB ST RT CT CT2 SP NB
    go_wp2_with fail
    refine (AW'.out _ D4.out).mono ?_
    rintro e w5 ⟨rfl, k5⟩
    have D5 := Lib.hid (next0 D4.out k5)
    go_wp2_with fail
    go_ret
    exact ⟨rfl, D5.out⟩
  have Z1 : Hid (partsT 100 100 a ≤ 100) := Lib.hid (by have := HB1.out; rw [decide_eq_true_eq] at this; exact this)
  clear HB1
  obtain ⟨y1, y2, _⟩ := (HH.out _ K4.out).1.two
  obtain ⟨z1, z2, _⟩ := (HH.out _ K4.out).2.two
  go_wp2_with fail
  refine (C2.out _ D4.out).mono ?_
  rintro e w5 ⟨rfl, g5⟩
  have D5 := Lib.hid (next0 D4.out g5.1)
  have K5 := Lib.hid (next0 K4.out g5.1)
  clear g5 y1 y2 z1 z2 C2
  cases b2
  · clear CM VT VA VB AA AB ST RT CT CT2 SP NB
    go_wp2_with fail
    refine (AW'.out _ D5.out).mono ?_
    rintro e w6 ⟨rfl, k6⟩
    have D6 := Lib.hid (next0 D5.out k6)
    go_wp2_with fail
    go_ret
    exact ⟨rfl, D6.out⟩
  have Z2 : Hid (partsT 100 100 b ≤ 100) := Lib.hid (by have := HB2.out; rw [decide_eq_true_eq] at this; exact this)
  clear HB2
  have CM5 := Lib.hid (CM.out Z1.out Z2.out _ D5.out)
  clear CM
  obtain ⟨y1, y2, _⟩ := (HH.out _ K5.out).1.two
  obtain ⟨z1, z2, _⟩ := (HH.out _ K5.out).2.two
  go_wp2_with fail
  refine CM5.out.mono ?_
  rintro e w6 ⟨v6, f6, rfl, h1, h2, k6⟩
  have D6 := Lib.hid (next0 D5.out k6)
  have K6 := Lib.hid (next0 K5.out k6)
  -- the substitution, its canonical form if there is one
  have key : Hid (∃ s : List Bd, SIn (· < w6.heap.size) w6 s v6 ∧ (f6 = true → Canon a b s ∧ o = some s ∧ va = true ∧ vb = true) ∧ (f6 = false → o = none ∧ s = [])) := Lib.hid (by
    cases f6
    · obtain ⟨ho, hv⟩ := h2 rfl
      rw [hv]
      exact ⟨[], SIn.nil _ _, fun h => (by cases h), fun _ => ⟨ho, rfl⟩⟩
    · obtain ⟨s, ho, hS⟩ := h1 rfl
      have hVV : V a ∧ V b := by
        apply Classical.byContradiction
        intro hn
        rw [NB.out hn] at ho
        cases ho
      exact ⟨s, hS, fun _ => ⟨(most_some (SP.out hVV.1 hVV.2) ho).1, ho, by rw [← HVA.out]; exact hVV.1, by rw [← HVB.out]; exact hVV.2⟩, fun h => by cases h⟩)
  clear h1 h2 k6 y1 y2 z1 z2 CM5 NB
  obtain ⟨s, hs, hcan, hnone⟩ := key.out
  obtain ⟨p6, c6, rfl, hc6, hm6, hR6⟩ := SIn.row hs
  have SS := Lib.hid (fun w' (k : Below w6.heap.size w6 w') => (hs.deep k (Nat.le_refl _)).wide (ok' := (· < w'.heap.size)) fun b hb => Nat.lt_of_lt_of_le hb k.size)
  have RS := Lib.hid (fun w' (k : Below w6.heap.size w6 w') => hR6.deep k (Nat.le_refl _))
  have SB := Lib.hid (fun w' (k : Below w6.heap.size w6 w') => hs.deep k (Nat.le_refl _))
  have hww : w.heap.size ≤ w6.heap.size := D6.out.size
  have CA := Lib.hid hcan
  have NO := Lib.hid hnone
  have hls : s.length ≤ maxLen := Nat.le_trans hc6 hm6
  have hs6 : w.heap.size + 2 ≤ w6.heap.size := Nat.le_trans hs2 K6.out.size
  clear hs hcan hnone hR6 hc6 hm6 key
  generalize hsl : s.length = sl at *
  have HSL := Lib.hid hsl
  clear hsl
  have HH6 := Lib.hid (fun w' (k : Below w6.heap.size w6 w') => HH.out w' (next0 K6.out k))
  clear HH
  obtain ⟨y1, y2, y3, y4, y5⟩ := (HH6.out _ (Below.refl _ _)).1.two
  obtain ⟨z1, z2, z3, z4, z5⟩ := (HH6.out _ (Below.refl _ _)).2.two
  go_upto_if 33 with fail
  go_cut [] (fun wx => Hid (Below w6.heap.size w6 wx))
  case first =>
    cases f6
    · go_wp2_with fail
      go_meet
      exact Lib.hid (Below.refl _ _)
    · have hC := (CA.out rfl).1
      have hU := most_uni hC
      have hx8 : validT false 8 (appT s a) = true := by
        rw [app_sub hC.1.2.1]
        exact valid_sub (k := 4) (d := 4) (fun v hv => asF_valid (by omega) hC.1.2.2.1 hv) (HVA.out.trans (CA.out rfl).2.2.1)
      have HXM : Hid ((appT s a).nm.size ≤ maxLen) := Lib.hid (valid_nm hx8)
      have A6 := Lib.hid (fun w' (k : Below w6.heap.size w6 w') => AA.out s hC.1.2.1 Z1.out w6.heap.size hww w' (next0 D6.out k) k.size _ (SB.out w' k))
      have B6 := Lib.hid (fun w' (k : Below w6.heap.size w6 w') => AB.out s hC.1.2.1 Z2.out w6.heap.size hww w' (next0 D6.out k) k.size _ (SB.out w' k))
      rw [← hU.1] at B6
      have AXX := Lib.hid (fun w' (k : Below w6.heap.size w6 w') q (hq : SlIn (· < w'.heap.size) w' (appT s a).args q) => rapply_any s hC.1.2.1 (appT s a) w'.heap.size w' _ q (Nat.le_refl _) (SS.out w' k) hq HXM.out (by have := size_8 hx8; omega))
      rw [hU.2] at AXX
      clear VT VA VB AA AB RT RS CT2 SP CA NO ST SB SS hx8 HXM
      generalize appT s a = x at *
      generalize hxn : x.nm = xn at *
      generalize hxl : x.args.length = xl at *
      have HXN := Lib.hid hxn
      have HXL := Lib.hid hxl
      clear hxn hxl
      go_upto_region 5 with fail
      go_cut [9, 10] (fun v9 v10 wx => ∃ (g9 g10 : Nat) (q9 q10 : Option Addr) (d9 d10 : Nat), v9 = .pointer (some ⟨g9, 0, none⟩) ∧ v10 = .pointer (some ⟨g10, 0, none⟩) ∧ Hid (Has wx g9 #[.string xn, .slice q9 xl d9]) ∧ Hid (Has wx g10 #[.string xn, .slice q10 xl d10]) ∧ Hid (SlIn (· < wx.heap.size) wx x.args (.slice q9 xl d9)) ∧ Hid (SlIn (· < wx.heap.size) wx x.args (.slice q10 xl d10)) ∧ Hid (Below w6.heap.size w6 wx))
      case first =>
        have Hb : Hid (∀ w', Below w6.heap.size w6 w' → w'.cell? ⟨w.heap.size, 0, none⟩ = some (.string an) ∧ w'.cell? ⟨w.heap.size, 1, none⟩ = some (.slice p1 al c1) ∧ w'.cell? ⟨w.heap.size + 1, 0, none⟩ = some (.string bn) ∧ w'.cell? ⟨w.heap.size + 1, 1, none⟩ = some (.slice p2 bl c2) ∧ Hid (Below w6.heap.size w6 w')) := Lib.hid (fun w' g => ⟨(HH6.out w' g).1.two.1, (HH6.out w' g).1.two.2.1, (HH6.out w' g).2.two.1, (HH6.out w' g).2.two.2.1, Lib.hid g⟩)
        have K0 : Hid (Below w6.heap.size w6 w6.drew) := Lib.hid (Below.refl _ _).drew
        clear y1 y2 y3 y4 y5 z1 z2 z3 z4 z5
        refine wp_region_held_drew (S := (fun w' => w'.cell? ⟨w.heap.size, 0, none⟩ = some (.string an) ∧ w'.cell? ⟨w.heap.size, 1, none⟩ = some (.slice p1 al c1) ∧ w'.cell? ⟨w.heap.size + 1, 0, none⟩ = some (.string bn) ∧ w'.cell? ⟨w.heap.size + 1, 1, none⟩ = some (.slice p2 bl c2) ∧ Hid (Below w6.heap.size w6 w'))) (by kernel_rfl) (Hb.out _ K0.out) (fun hHeld => ?_)
        generalize hw0 : w6.drew = w0 at hHeld K0 ⊢
        clear hw0
        have hz0 : w6.heap.size ≤ w0.heap.size := K0.out.size
        refine wpAnyH_take (i := 0) (v := ?_) rfl (by kernel_rfl) (by kernel_rfl) (by kernel_rfl) (fun _ _ _ h => h) (Or.inl ⟨by rfl, ?_⟩) (by assumption) ?_
        rotate_left
        · intro w' hSw; (try dsimp only at hSw); (try simp only [List.getElem_toArray, List.getElem_cons_zero]); go_simp; try with_reducible rfl
        (try simp only [List.getElem_toArray, List.getElem_cons_zero, Act.put, List.setIfInBounds_toArray, List.set_cons_zero, List.set_cons_succ])
        refine wpAnyH_take (i := 1) (v := ?_) rfl (by kernel_rfl) (by kernel_rfl) (by kernel_rfl) (fun _ _ _ h => h) (Or.inl ⟨by rfl, ?_⟩) (by assumption) ?_
        rotate_left
        · intro w' hSw; (try dsimp only at hSw); (try simp only [List.getElem_toArray, List.getElem_cons_zero, List.getElem_cons_succ]); go_simp; try with_reducible rfl
        (try simp only [List.getElem_toArray, List.getElem_cons_zero, List.getElem_cons_succ, Act.put, List.setIfInBounds_toArray, List.set_cons_zero, List.set_cons_succ])
        refine wpAnyH_take (i := 3) (v := ?_) rfl (by kernel_rfl) (by kernel_rfl) (by kernel_rfl) (fun _ _ _ h => h) (Or.inl ⟨by rfl, ?_⟩) (by assumption) ?_
        rotate_left
        · intro w' hSw; (try dsimp only at hSw); (try simp only [List.getElem_toArray, List.getElem_cons_zero, List.getElem_cons_succ]); go_simp; try with_reducible rfl
        (try simp only [List.getElem_toArray, List.getElem_cons_zero, List.getElem_cons_succ, Act.put, List.setIfInBounds_toArray, List.set_cons_zero, List.set_cons_succ])
        refine wpAnyH_take (i := 4) (v := ?_) rfl (by kernel_rfl) (by kernel_rfl) (by kernel_rfl) (fun _ _ _ h => h) (Or.inl ⟨by rfl, ?_⟩) (by assumption) ?_
        rotate_left
        · intro w' hSw; (try dsimp only at hSw); (try simp only [List.getElem_toArray, List.getElem_cons_zero, List.getElem_cons_succ]); go_simp; try with_reducible rfl
        (try simp only [List.getElem_toArray, List.getElem_cons_zero, List.getElem_cons_succ, Act.put, List.setIfInBounds_toArray, List.set_cons_zero, List.set_cons_succ])
        refine wpAnyH_ready (rs := [2, 6, 7]) (by kernel_rfl) (by simp) ?_
        refine (AllReadyH.cons rfl (fun K hK => ?_) (AllReadyH.cons rfl (fun K hK => ?_) (AllReadyH.cons rfl (fun K hK => ?_) AllReadyH.nil)))
        · skip
          go_simp
          (try go_split_ands)
          go_at_call 21
          (with_reducible refine (A6.out _ K0.out).mono ?_)
          rintro e wa1 ⟨q1, d1, lo1, rfl, hlo1, s1, n1, k1⟩
          have KA1 := Lib.hid (next0 K0.out k1)
          have hz1 : (w0).heap.size ≤ wa1.heap.size := k1.size
          have hl1 : lo1 = (w0).heap.size := hlo1
          obtain ⟨hi1, hh1⟩ : ∃ m, m = wa1.heap.size := ⟨_, rfl⟩
          rw [← hh1] at s1
          have SN1 := Lib.hid s1
          have KJ1 := Lib.hid k1
          clear hlo1 s1 n1 k1
          refine hK.out _ _ (Hb.out _ KA1.out) (fun hHeld => ?_)
          clear hK K
          (try simp only [List.getElem_toArray, List.getElem_cons_zero, List.getElem_cons_succ, Act.put, List.setIfInBounds_toArray, List.set_cons_zero, List.set_cons_succ])
          refine wpAnyH_ready (rs := [5, 6, 7]) (by kernel_rfl) (by simp) ?_
          refine (AllReadyH.cons rfl (fun K hK => ?_) (AllReadyH.cons rfl (fun K hK => ?_) (AllReadyH.cons rfl (fun K hK => ?_) AllReadyH.nil)))
          · skip
            go_simp
            (try go_split_ands)
            go_at_call 21
            (with_reducible refine (B6.out _ KA1.out).mono ?_)
            rintro e wa2 ⟨q2, d2, lo2, rfl, hlo2, s2, n2, k2⟩
            have KA2 := Lib.hid (next0 KA1.out k2)
            have hz2 : (wa1).heap.size ≤ wa2.heap.size := k2.size
            have hl2 : lo2 = (wa1).heap.size := hlo2
            obtain ⟨hi2, hh2⟩ : ∃ m, m = wa2.heap.size := ⟨_, rfl⟩
            rw [← hh2] at s2
            have SN2 := Lib.hid s2
            have KJ2 := Lib.hid k2
            clear hlo2 s2 n2 k2
            have SA9_2 := Lib.hid (SN1.out.frame (w' := wa2) fun b o hb => (KJ2.out).cell (p := ⟨b, o, none⟩) (okq (a := w6.heap.size) (lo := lo1) (hi := hi1) (show w6.heap.size ≤ (wa1).heap.size from KA1.out.size) (show hi1 ≤ (wa1).heap.size by omega) b hb))
            refine hK.out _ _ (Hb.out _ KA2.out) (fun hHeld => ?_)
            clear hK K
            (try simp only [List.getElem_toArray, List.getElem_cons_zero, List.getElem_cons_succ, Act.put, List.setIfInBounds_toArray, List.set_cons_zero, List.set_cons_succ])
            refine wpAnyH_ready (rs := [6, 7]) (by kernel_rfl) (by simp) ?_
            refine (AllReadyH.cons rfl (fun K hK => ?_) (AllReadyH.cons rfl (fun K hK => ?_) AllReadyH.nil))
            · skip
              go_simp
              (try go_split_ands)
              obtain ⟨wb3, hw3⟩ : ∃ z, z = (wa2).alloc (.cells #[.string ⟨#[]⟩, .slice none 0 0] 27) := ⟨_, rfl⟩
              rw [← hw3]
              have J3 : Hid (Below (wa2).heap.size (wa2) wb3) := Lib.hid (by rw [hw3]; exact below_alloc _ _)
              have HN3 : Hid (Has wb3 (wa2).heap.size #[.string ⟨#[]⟩, .slice none 0 0]) := Lib.hid (by rw [hw3]; exact Has.new _ _ _)
              have KA3 := Lib.hid (next0 KA2.out J3.out)
              have hz3 : (wa2).heap.size + 1 ≤ wb3.heap.size := by rw [hw3]; simp
              clear hw3
              have SA9_3 := Lib.hid (SA9_2.out.frame (w' := wb3) fun b o hb => (J3.out).cell (p := ⟨b, o, none⟩) (okq (a := w6.heap.size) (lo := lo1) (hi := hi1) (show w6.heap.size ≤ (wa2).heap.size from KA2.out.size) (show hi1 ≤ (wa2).heap.size by omega) b hb))
              have SA10_3 := Lib.hid (SN2.out.frame (w' := wb3) fun b o hb => (J3.out).cell (p := ⟨b, o, none⟩) (okq (a := w6.heap.size) (lo := lo2) (hi := hi2) (show w6.heap.size ≤ (wa2).heap.size from KA2.out.size) (show hi2 ≤ (wa2).heap.size by omega) b hb))
              refine hK.out _ _ (Hb.out _ KA3.out) (fun hHeld => ?_)
              clear hK K
              (try simp only [List.getElem_toArray, List.getElem_cons_zero, List.getElem_cons_succ, Act.put, List.setIfInBounds_toArray, List.set_cons_zero, List.set_cons_succ])
              refine wpAnyH_ready (rs := [7]) (by kernel_rfl) (by simp) ?_
              refine AllReadyH.cons rfl (fun K hK => ?_) AllReadyH.nil
              go_simp
              (try go_split_ands)
              obtain ⟨wb4, hw4⟩ : ∃ z, z = (wb3).alloc (.cells #[.string ⟨#[]⟩, .slice none 0 0] 27) := ⟨_, rfl⟩
              rw [← hw4]
              have J4 : Hid (Below (wb3).heap.size (wb3) wb4) := Lib.hid (by rw [hw4]; exact below_alloc _ _)
              have HN4 : Hid (Has wb4 (wb3).heap.size #[.string ⟨#[]⟩, .slice none 0 0]) := Lib.hid (by rw [hw4]; exact Has.new _ _ _)
              have KA4 := Lib.hid (next0 KA3.out J4.out)
              have hz4 : (wb3).heap.size + 1 ≤ wb4.heap.size := by rw [hw4]; simp
              clear hw4
              have HA9_4 := Lib.hid (HN3.out.step0 J4.out)
              have SA9_4 := Lib.hid (SA9_3.out.frame (w' := wb4) fun b o hb => (J4.out).cell (p := ⟨b, o, none⟩) (okq (a := w6.heap.size) (lo := lo1) (hi := hi1) (show w6.heap.size ≤ (wb3).heap.size from KA3.out.size) (show hi1 ≤ (wb3).heap.size by omega) b hb))
              have SA10_4 := Lib.hid (SA10_3.out.frame (w' := wb4) fun b o hb => (J4.out).cell (p := ⟨b, o, none⟩) (okq (a := w6.heap.size) (lo := lo2) (hi := hi2) (show w6.heap.size ≤ (wb3).heap.size from KA3.out.size) (show hi2 ≤ (wb3).heap.size by omega) b hb))
              refine hK.out _ _ (Hb.out _ KA4.out) (fun hHeld => ?_)
              clear hK K
              (try simp only [List.getElem_toArray, List.getElem_cons_zero, List.getElem_cons_succ, Act.put, List.setIfInBounds_toArray, List.set_cons_zero, List.set_cons_succ])
              refine wpAnyH_ready (rs := [8]) (by kernel_rfl) (by simp) ?_
              refine AllReadyH.cons rfl (fun K hK => ?_) AllReadyH.nil
              obtain ⟨f1, f2, f3, f4, f5⟩ := HA9_4.out.two
              go_simp
              (try go_split_ands)
              obtain ⟨ws5, hw5⟩ : ∃ z, z = ((wb4).setCell ⟨(wa2).heap.size, 0, none⟩ (.string xn)).setCell ⟨(wa2).heap.size, 1, none⟩ (.slice q1 xl d1) := ⟨_, rfl⟩
              rw [← hw5]
              have hgw5 : w6.heap.size ≤ (wa2).heap.size := by omega
              have hne5 : (wb3).heap.size ≠ (wa2).heap.size := by omega
              have KA5 : Hid (Below w6.heap.size w6 ws5) := Lib.hid (by rw [hw5]; exact (KA4.out.setCell hgw5 _).setCell hgw5 _)
              have HN5 : Hid (Has ws5 (wa2).heap.size #[.string xn, .slice q1 xl d1]) := Lib.hid (by rw [hw5]; exact put_agg HA9_4.out _ _)
              have HO5 := Lib.hid (show Has ws5 (wb3).heap.size _ by rw [hw5]; exact far_agg hne5 HN4.out _ _)
              have hz5 : (wb4).heap.size ≤ ws5.heap.size := by rw [hw5]; simp [World.setCell]
              have SA9_5 := Lib.hid (show SlIn _ ws5 x.args (.slice q1 xl d1) by rw [hw5]; exact slin_far2 SA9_4.out (okn (a := w6.heap.size) (lo := lo1) (hi := hi1) hgw5 (by omega)) _ _)
              have SA10_5 := Lib.hid (show SlIn _ ws5 x.args (.slice q2 xl d2) by rw [hw5]; exact slin_far2 SA10_4.out (okn (a := w6.heap.size) (lo := lo2) (hi := hi2) hgw5 (by omega)) _ _)
              clear hw5 f1 f2 f3 f4 f5
              refine hK.out _ _ (Hb.out _ KA5.out) (fun hHeld => ?_)
              clear hK K
              (try simp only [List.getElem_toArray, List.getElem_cons_zero, List.getElem_cons_succ, Act.put, List.setIfInBounds_toArray, List.set_cons_zero, List.set_cons_succ])
              refine wpAnyH_ready (rs := [9]) (by kernel_rfl) (by simp) ?_
              refine AllReadyH.cons rfl (fun K hK => ?_) AllReadyH.nil
              obtain ⟨f1, f2, f3, f4, f5⟩ := HO5.out.two
              go_simp
              (try go_split_ands)
              obtain ⟨ws6, hw6⟩ : ∃ z, z = ((ws5).setCell ⟨(wb3).heap.size, 0, none⟩ (.string xn)).setCell ⟨(wb3).heap.size, 1, none⟩ (.slice q2 xl d2) := ⟨_, rfl⟩
              rw [← hw6]
              have hgw6 : w6.heap.size ≤ (wb3).heap.size := by omega
              have hne6 : (wa2).heap.size ≠ (wb3).heap.size := by omega
              have KA6 : Hid (Below w6.heap.size w6 ws6) := Lib.hid (by rw [hw6]; exact (KA5.out.setCell hgw6 _).setCell hgw6 _)
              have HN6 : Hid (Has ws6 (wb3).heap.size #[.string xn, .slice q2 xl d2]) := Lib.hid (by rw [hw6]; exact put_agg HO5.out _ _)
              have HO6 := Lib.hid (show Has ws6 (wa2).heap.size _ by rw [hw6]; exact far_agg hne6 HN5.out _ _)
              have hz6 : (ws5).heap.size ≤ ws6.heap.size := by rw [hw6]; simp [World.setCell]
              have SA9_6 := Lib.hid (show SlIn _ ws6 x.args (.slice q1 xl d1) by rw [hw6]; exact slin_far2 SA9_5.out (okn (a := w6.heap.size) (lo := lo1) (hi := hi1) hgw6 (by omega)) _ _)
              have SA10_6 := Lib.hid (show SlIn _ ws6 x.args (.slice q2 xl d2) by rw [hw6]; exact slin_far2 SA10_5.out (okn (a := w6.heap.size) (lo := lo2) (hi := hi2) hgw6 (by omega)) _ _)
              clear hw6 f1 f2 f3 f4 f5
              refine hK.out _ _ (Hb.out _ KA6.out) (fun hHeld => ?_)
              clear hK K
              (try simp only [List.getElem_toArray, List.getElem_cons_zero, List.getElem_cons_succ, Act.put, List.setIfInBounds_toArray, List.set_cons_zero, List.set_cons_succ])
              have FIN9 := Lib.hid (SA9_6.out.weaken (ok' := (· < ws6.heap.size)) (okq (a := w6.heap.size) (lo := lo1) (hi := hi1) KA6.out.size (show hi1 ≤ ws6.heap.size by omega)))
              have FIN10 := Lib.hid (SA10_6.out.weaken (ok' := (· < ws6.heap.size)) (okq (a := w6.heap.size) (lo := lo2) (hi := hi2) KA6.out.size (show hi2 ≤ ws6.heap.size by omega)))
              refine wpAnyH_done (by kernel_rfl) ?_ _
              go_wp2_with fail
              go_meet
              exact ⟨(wa2).heap.size, (wb3).heap.size, q1, q2, d1, d2, rfl, rfl, HO6, HN6, FIN9, FIN10, KA6⟩
            · skip
              go_simp
              (try go_split_ands)
              obtain ⟨wb7, hw7⟩ : ∃ z, z = (wa2).alloc (.cells #[.string ⟨#[]⟩, .slice none 0 0] 27) := ⟨_, rfl⟩
              rw [← hw7]
              have J7 : Hid (Below (wa2).heap.size (wa2) wb7) := Lib.hid (by rw [hw7]; exact below_alloc _ _)
              have HN7 : Hid (Has wb7 (wa2).heap.size #[.string ⟨#[]⟩, .slice none 0 0]) := Lib.hid (by rw [hw7]; exact Has.new _ _ _)
              have KA7 := Lib.hid (next0 KA2.out J7.out)
              have hz7 : (wa2).heap.size + 1 ≤ wb7.heap.size := by rw [hw7]; simp
              clear hw7
              have SA9_7 := Lib.hid (SA9_2.out.frame (w' := wb7) fun b o hb => (J7.out).cell (p := ⟨b, o, none⟩) (okq (a := w6.heap.size) (lo := lo1) (hi := hi1) (show w6.heap.size ≤ (wa2).heap.size from KA2.out.size) (show hi1 ≤ (wa2).heap.size by omega) b hb))
              have SA10_7 := Lib.hid (SN2.out.frame (w' := wb7) fun b o hb => (J7.out).cell (p := ⟨b, o, none⟩) (okq (a := w6.heap.size) (lo := lo2) (hi := hi2) (show w6.heap.size ≤ (wa2).heap.size from KA2.out.size) (show hi2 ≤ (wa2).heap.size by omega) b hb))
              refine hK.out _ _ (Hb.out _ KA7.out) (fun hHeld => ?_)
              clear hK K
              (try simp only [List.getElem_toArray, List.getElem_cons_zero, List.getElem_cons_succ, Act.put, List.setIfInBounds_toArray, List.set_cons_zero, List.set_cons_succ])
              refine wpAnyH_ready (rs := [6]) (by kernel_rfl) (by simp) ?_
              refine AllReadyH.cons rfl (fun K hK => ?_) AllReadyH.nil
              go_simp
              (try go_split_ands)
              obtain ⟨wb8, hw8⟩ : ∃ z, z = (wb7).alloc (.cells #[.string ⟨#[]⟩, .slice none 0 0] 27) := ⟨_, rfl⟩
              rw [← hw8]
              have J8 : Hid (Below (wb7).heap.size (wb7) wb8) := Lib.hid (by rw [hw8]; exact below_alloc _ _)
              have HN8 : Hid (Has wb8 (wb7).heap.size #[.string ⟨#[]⟩, .slice none 0 0]) := Lib.hid (by rw [hw8]; exact Has.new _ _ _)
              have KA8 := Lib.hid (next0 KA7.out J8.out)
              have hz8 : (wb7).heap.size + 1 ≤ wb8.heap.size := by rw [hw8]; simp
              clear hw8
              have HA10_8 := Lib.hid (HN7.out.step0 J8.out)
              have SA9_8 := Lib.hid (SA9_7.out.frame (w' := wb8) fun b o hb => (J8.out).cell (p := ⟨b, o, none⟩) (okq (a := w6.heap.size) (lo := lo1) (hi := hi1) (show w6.heap.size ≤ (wb7).heap.size from KA7.out.size) (show hi1 ≤ (wb7).heap.size by omega) b hb))
              have SA10_8 := Lib.hid (SA10_7.out.frame (w' := wb8) fun b o hb => (J8.out).cell (p := ⟨b, o, none⟩) (okq (a := w6.heap.size) (lo := lo2) (hi := hi2) (show w6.heap.size ≤ (wb7).heap.size from KA7.out.size) (show hi2 ≤ (wb7).heap.size by omega) b hb))
              refine hK.out _ _ (Hb.out _ KA8.out) (fun hHeld => ?_)
              clear hK K
              (try simp only [List.getElem_toArray, List.getElem_cons_zero, List.getElem_cons_succ, Act.put, List.setIfInBounds_toArray, List.set_cons_zero, List.set_cons_succ])
              refine wpAnyH_ready (rs := [8]) (by kernel_rfl) (by simp) ?_
              refine AllReadyH.cons rfl (fun K hK => ?_) AllReadyH.nil
              obtain ⟨f1, f2, f3, f4, f5⟩ := HN8.out.two
              go_simp
              (try go_split_ands)
              obtain ⟨ws9, hw9⟩ : ∃ z, z = ((wb8).setCell ⟨(wb7).heap.size, 0, none⟩ (.string xn)).setCell ⟨(wb7).heap.size, 1, none⟩ (.slice q1 xl d1) := ⟨_, rfl⟩
              rw [← hw9]
              have hgw9 : w6.heap.size ≤ (wb7).heap.size := by omega
              have hne9 : (wa2).heap.size ≠ (wb7).heap.size := by omega
              have KA9 : Hid (Below w6.heap.size w6 ws9) := Lib.hid (by rw [hw9]; exact (KA8.out.setCell hgw9 _).setCell hgw9 _)
              have HN9 : Hid (Has ws9 (wb7).heap.size #[.string xn, .slice q1 xl d1]) := Lib.hid (by rw [hw9]; exact put_agg HN8.out _ _)
              have HO9 := Lib.hid (show Has ws9 (wa2).heap.size _ by rw [hw9]; exact far_agg hne9 HA10_8.out _ _)
              have hz9 : (wb8).heap.size ≤ ws9.heap.size := by rw [hw9]; simp [World.setCell]
              have SA9_9 := Lib.hid (show SlIn _ ws9 x.args (.slice q1 xl d1) by rw [hw9]; exact slin_far2 SA9_8.out (okn (a := w6.heap.size) (lo := lo1) (hi := hi1) hgw9 (by omega)) _ _)
              have SA10_9 := Lib.hid (show SlIn _ ws9 x.args (.slice q2 xl d2) by rw [hw9]; exact slin_far2 SA10_8.out (okn (a := w6.heap.size) (lo := lo2) (hi := hi2) hgw9 (by omega)) _ _)
              clear hw9 f1 f2 f3 f4 f5
              refine hK.out _ _ (Hb.out _ KA9.out) (fun hHeld => ?_)
              clear hK K
              (try simp only [List.getElem_toArray, List.getElem_cons_zero, List.getElem_cons_succ, Act.put, List.setIfInBounds_toArray, List.set_cons_zero, List.set_cons_succ])
              refine wpAnyH_ready (rs := [9]) (by kernel_rfl) (by simp) ?_
              refine AllReadyH.cons rfl (fun K hK => ?_) AllReadyH.nil
              obtain ⟨f1, f2, f3, f4, f5⟩ := HO9.out.two
              go_simp
              (try go_split_ands)
              obtain ⟨ws10, hw10⟩ : ∃ z, z = ((ws9).setCell ⟨(wa2).heap.size, 0, none⟩ (.string xn)).setCell ⟨(wa2).heap.size, 1, none⟩ (.slice q2 xl d2) := ⟨_, rfl⟩
              rw [← hw10]
              have hgw10 : w6.heap.size ≤ (wa2).heap.size := by omega
              have hne10 : (wb7).heap.size ≠ (wa2).heap.size := by omega
              have KA10 : Hid (Below w6.heap.size w6 ws10) := Lib.hid (by rw [hw10]; exact (KA9.out.setCell hgw10 _).setCell hgw10 _)
              have HN10 : Hid (Has ws10 (wa2).heap.size #[.string xn, .slice q2 xl d2]) := Lib.hid (by rw [hw10]; exact put_agg HO9.out _ _)
              have HO10 := Lib.hid (show Has ws10 (wb7).heap.size _ by rw [hw10]; exact far_agg hne10 HN9.out _ _)
              have hz10 : (ws9).heap.size ≤ ws10.heap.size := by rw [hw10]; simp [World.setCell]
              have SA9_10 := Lib.hid (show SlIn _ ws10 x.args (.slice q1 xl d1) by rw [hw10]; exact slin_far2 SA9_9.out (okn (a := w6.heap.size) (lo := lo1) (hi := hi1) hgw10 (by omega)) _ _)
              have SA10_10 := Lib.hid (show SlIn _ ws10 x.args (.slice q2 xl d2) by rw [hw10]; exact slin_far2 SA10_9.out (okn (a := w6.heap.size) (lo := lo2) (hi := hi2) hgw10 (by omega)) _ _)
              clear hw10 f1 f2 f3 f4 f5
              refine hK.out _ _ (Hb.out _ KA10.out) (fun hHeld => ?_)
              clear hK K
              (try simp only [List.getElem_toArray, List.getElem_cons_zero, List.getElem_cons_succ, Act.put, List.setIfInBounds_toArray, List.set_cons_zero, List.set_cons_succ])
              have FIN9 := Lib.hid (SA9_10.out.weaken (ok' := (· < ws10.heap.size)) (okq (a := w6.heap.size) (lo := lo1) (hi := hi1) KA10.out.size (show hi1 ≤ ws10.heap.size by omega)))
              have FIN10 := Lib.hid (SA10_10.out.weaken (ok' := (· < ws10.heap.size)) (okq (a := w6.heap.size) (lo := lo2) (hi := hi2) KA10.out.size (show hi2 ≤ ws10.heap.size by omega)))
              refine wpAnyH_done (by kernel_rfl) ?_ _
              go_wp2_with fail
              go_meet
              exact ⟨(wb7).heap.size, (wa2).heap.size, q1, q2, d1, d2, rfl, rfl, HO10, HN10, FIN9, FIN10, KA10⟩
          · skip
            go_simp
            (try go_split_ands)
            obtain ⟨wb11, hw11⟩ : ∃ z, z = (wa1).alloc (.cells #[.string ⟨#[]⟩, .slice none 0 0] 27) := ⟨_, rfl⟩
            rw [← hw11]
            have J11 : Hid (Below (wa1).heap.size (wa1) wb11) := Lib.hid (by rw [hw11]; exact below_alloc _ _)
            have HN11 : Hid (Has wb11 (wa1).heap.size #[.string ⟨#[]⟩, .slice none 0 0]) := Lib.hid (by rw [hw11]; exact Has.new _ _ _)
            have KA11 := Lib.hid (next0 KA1.out J11.out)
            have hz11 : (wa1).heap.size + 1 ≤ wb11.heap.size := by rw [hw11]; simp
            clear hw11
            have SA9_11 := Lib.hid (SN1.out.frame (w' := wb11) fun b o hb => (J11.out).cell (p := ⟨b, o, none⟩) (okq (a := w6.heap.size) (lo := lo1) (hi := hi1) (show w6.heap.size ≤ (wa1).heap.size from KA1.out.size) (show hi1 ≤ (wa1).heap.size by omega) b hb))
            refine hK.out _ _ (Hb.out _ KA11.out) (fun hHeld => ?_)
            clear hK K
            (try simp only [List.getElem_toArray, List.getElem_cons_zero, List.getElem_cons_succ, Act.put, List.setIfInBounds_toArray, List.set_cons_zero, List.set_cons_succ])
            refine wpAnyH_ready (rs := [5, 7]) (by kernel_rfl) (by simp) ?_
            refine (AllReadyH.cons rfl (fun K hK => ?_) (AllReadyH.cons rfl (fun K hK => ?_) AllReadyH.nil))
            · skip
              go_simp
              (try go_split_ands)
              go_at_call 21
              (with_reducible refine (B6.out _ KA11.out).mono ?_)
              rintro e wa12 ⟨q12, d12, lo12, rfl, hlo12, s12, n12, k12⟩
              have KA12 := Lib.hid (next0 KA11.out k12)
              have hz12 : (wb11).heap.size ≤ wa12.heap.size := k12.size
              have hl12 : lo12 = (wb11).heap.size := hlo12
              obtain ⟨hi12, hh12⟩ : ∃ m, m = wa12.heap.size := ⟨_, rfl⟩
              rw [← hh12] at s12
              have SN12 := Lib.hid s12
              have KJ12 := Lib.hid k12
              clear hlo12 s12 n12 k12
              have HA9_12 := Lib.hid (HN11.out.step0 KJ12.out)
              have SA9_12 := Lib.hid (SA9_11.out.frame (w' := wa12) fun b o hb => (KJ12.out).cell (p := ⟨b, o, none⟩) (okq (a := w6.heap.size) (lo := lo1) (hi := hi1) (show w6.heap.size ≤ (wb11).heap.size from KA11.out.size) (show hi1 ≤ (wb11).heap.size by omega) b hb))
              refine hK.out _ _ (Hb.out _ KA12.out) (fun hHeld => ?_)
              clear hK K
              (try simp only [List.getElem_toArray, List.getElem_cons_zero, List.getElem_cons_succ, Act.put, List.setIfInBounds_toArray, List.set_cons_zero, List.set_cons_succ])
              refine wpAnyH_ready (rs := [7]) (by kernel_rfl) (by simp) ?_
              refine AllReadyH.cons rfl (fun K hK => ?_) AllReadyH.nil
              go_simp
              (try go_split_ands)
              obtain ⟨wb13, hw13⟩ : ∃ z, z = (wa12).alloc (.cells #[.string ⟨#[]⟩, .slice none 0 0] 27) := ⟨_, rfl⟩
              rw [← hw13]
              have J13 : Hid (Below (wa12).heap.size (wa12) wb13) := Lib.hid (by rw [hw13]; exact below_alloc _ _)
              have HN13 : Hid (Has wb13 (wa12).heap.size #[.string ⟨#[]⟩, .slice none 0 0]) := Lib.hid (by rw [hw13]; exact Has.new _ _ _)
              have KA13 := Lib.hid (next0 KA12.out J13.out)
              have hz13 : (wa12).heap.size + 1 ≤ wb13.heap.size := by rw [hw13]; simp
              clear hw13
              have HA9_13 := Lib.hid (HA9_12.out.step0 J13.out)
              have SA9_13 := Lib.hid (SA9_12.out.frame (w' := wb13) fun b o hb => (J13.out).cell (p := ⟨b, o, none⟩) (okq (a := w6.heap.size) (lo := lo1) (hi := hi1) (show w6.heap.size ≤ (wa12).heap.size from KA12.out.size) (show hi1 ≤ (wa12).heap.size by omega) b hb))
              have SA10_13 := Lib.hid (SN12.out.frame (w' := wb13) fun b o hb => (J13.out).cell (p := ⟨b, o, none⟩) (okq (a := w6.heap.size) (lo := lo12) (hi := hi12) (show w6.heap.size ≤ (wa12).heap.size from KA12.out.size) (show hi12 ≤ (wa12).heap.size by omega) b hb))
              refine hK.out _ _ (Hb.out _ KA13.out) (fun hHeld => ?_)
              clear hK K
              (try simp only [List.getElem_toArray, List.getElem_cons_zero, List.getElem_cons_succ, Act.put, List.setIfInBounds_toArray, List.set_cons_zero, List.set_cons_succ])
              refine wpAnyH_ready (rs := [8]) (by kernel_rfl) (by simp) ?_
              refine AllReadyH.cons rfl (fun K hK => ?_) AllReadyH.nil
              obtain ⟨f1, f2, f3, f4, f5⟩ := HA9_13.out.two
              go_simp
              (try go_split_ands)
              obtain ⟨ws14, hw14⟩ : ∃ z, z = ((wb13).setCell ⟨(wa1).heap.size, 0, none⟩ (.string xn)).setCell ⟨(wa1).heap.size, 1, none⟩ (.slice q1 xl d1) := ⟨_, rfl⟩
              rw [← hw14]
              have hgw14 : w6.heap.size ≤ (wa1).heap.size := by omega
              have hne14 : (wa12).heap.size ≠ (wa1).heap.size := by omega
              have KA14 : Hid (Below w6.heap.size w6 ws14) := Lib.hid (by rw [hw14]; exact (KA13.out.setCell hgw14 _).setCell hgw14 _)
              have HN14 : Hid (Has ws14 (wa1).heap.size #[.string xn, .slice q1 xl d1]) := Lib.hid (by rw [hw14]; exact put_agg HA9_13.out _ _)
              have HO14 := Lib.hid (show Has ws14 (wa12).heap.size _ by rw [hw14]; exact far_agg hne14 HN13.out _ _)
              have hz14 : (wb13).heap.size ≤ ws14.heap.size := by rw [hw14]; simp [World.setCell]
              have SA9_14 := Lib.hid (show SlIn _ ws14 x.args (.slice q1 xl d1) by rw [hw14]; exact slin_far2 SA9_13.out (okn (a := w6.heap.size) (lo := lo1) (hi := hi1) hgw14 (by omega)) _ _)
              have SA10_14 := Lib.hid (show SlIn _ ws14 x.args (.slice q12 xl d12) by rw [hw14]; exact slin_far2 SA10_13.out (okn (a := w6.heap.size) (lo := lo12) (hi := hi12) hgw14 (by omega)) _ _)
              clear hw14 f1 f2 f3 f4 f5
              refine hK.out _ _ (Hb.out _ KA14.out) (fun hHeld => ?_)
              clear hK K
              (try simp only [List.getElem_toArray, List.getElem_cons_zero, List.getElem_cons_succ, Act.put, List.setIfInBounds_toArray, List.set_cons_zero, List.set_cons_succ])
              refine wpAnyH_ready (rs := [9]) (by kernel_rfl) (by simp) ?_
              refine AllReadyH.cons rfl (fun K hK => ?_) AllReadyH.nil
              obtain ⟨f1, f2, f3, f4, f5⟩ := HO14.out.two
              go_simp
              (try go_split_ands)
              obtain ⟨ws15, hw15⟩ : ∃ z, z = ((ws14).setCell ⟨(wa12).heap.size, 0, none⟩ (.string xn)).setCell ⟨(wa12).heap.size, 1, none⟩ (.slice q12 xl d12) := ⟨_, rfl⟩
              rw [← hw15]
              have hgw15 : w6.heap.size ≤ (wa12).heap.size := by omega
              have hne15 : (wa1).heap.size ≠ (wa12).heap.size := by omega
              have KA15 : Hid (Below w6.heap.size w6 ws15) := Lib.hid (by rw [hw15]; exact (KA14.out.setCell hgw15 _).setCell hgw15 _)
              have HN15 : Hid (Has ws15 (wa12).heap.size #[.string xn, .slice q12 xl d12]) := Lib.hid (by rw [hw15]; exact put_agg HO14.out _ _)
              have HO15 := Lib.hid (show Has ws15 (wa1).heap.size _ by rw [hw15]; exact far_agg hne15 HN14.out _ _)
              have hz15 : (ws14).heap.size ≤ ws15.heap.size := by rw [hw15]; simp [World.setCell]
              have SA9_15 := Lib.hid (show SlIn _ ws15 x.args (.slice q1 xl d1) by rw [hw15]; exact slin_far2 SA9_14.out (okn (a := w6.heap.size) (lo := lo1) (hi := hi1) hgw15 (by omega)) _ _)
              have SA10_15 := Lib.hid (show SlIn _ ws15 x.args (.slice q12 xl d12) by rw [hw15]; exact slin_far2 SA10_14.out (okn (a := w6.heap.size) (lo := lo12) (hi := hi12) hgw15 (by omega)) _ _)
              clear hw15 f1 f2 f3 f4 f5
              refine hK.out _ _ (Hb.out _ KA15.out) (fun hHeld => ?_)
              clear hK K
              (try simp only [List.getElem_toArray, List.getElem_cons_zero, List.getElem_cons_succ, Act.put, List.setIfInBounds_toArray, List.set_cons_zero, List.set_cons_succ])
              have FIN9 := Lib.hid (SA9_15.out.weaken (ok' := (· < ws15.heap.size)) (okq (a := w6.heap.size) (lo := lo1) (hi := hi1) KA15.out.size (show hi1 ≤ ws15.heap.size by omega)))
              have FIN10 := Lib.hid (SA10_15.out.weaken (ok' := (· < ws15.heap.size)) (okq (a := w6.heap.size) (lo := lo12) (hi := hi12) KA15.out.size (show hi12 ≤ ws15.heap.size by omega)))
              refine wpAnyH_done (by kernel_rfl) ?_ _
              go_wp2_with fail
              go_meet
              exact ⟨(wa1).heap.size, (wa12).heap.size, q1, q12, d1, d12, rfl, rfl, HO15, HN15, FIN9, FIN10, KA15⟩
            · skip
              go_simp
              (try go_split_ands)
              obtain ⟨wb16, hw16⟩ : ∃ z, z = (wb11).alloc (.cells #[.string ⟨#[]⟩, .slice none 0 0] 27) := ⟨_, rfl⟩
              rw [← hw16]
              have J16 : Hid (Below (wb11).heap.size (wb11) wb16) := Lib.hid (by rw [hw16]; exact below_alloc _ _)
              have HN16 : Hid (Has wb16 (wb11).heap.size #[.string ⟨#[]⟩, .slice none 0 0]) := Lib.hid (by rw [hw16]; exact Has.new _ _ _)
              have KA16 := Lib.hid (next0 KA11.out J16.out)
              have hz16 : (wb11).heap.size + 1 ≤ wb16.heap.size := by rw [hw16]; simp
              clear hw16
              have HA9_16 := Lib.hid (HN11.out.step0 J16.out)
              have SA9_16 := Lib.hid (SA9_11.out.frame (w' := wb16) fun b o hb => (J16.out).cell (p := ⟨b, o, none⟩) (okq (a := w6.heap.size) (lo := lo1) (hi := hi1) (show w6.heap.size ≤ (wb11).heap.size from KA11.out.size) (show hi1 ≤ (wb11).heap.size by omega) b hb))
              refine hK.out _ _ (Hb.out _ KA16.out) (fun hHeld => ?_)
              clear hK K
              (try simp only [List.getElem_toArray, List.getElem_cons_zero, List.getElem_cons_succ, Act.put, List.setIfInBounds_toArray, List.set_cons_zero, List.set_cons_succ])
              refine wpAnyH_ready (rs := [5]) (by kernel_rfl) (by simp) ?_
              refine AllReadyH.cons rfl (fun K hK => ?_) AllReadyH.nil
              go_simp
              (try go_split_ands)
              go_at_call 21
              (with_reducible refine (B6.out _ KA16.out).mono ?_)
              rintro e wa17 ⟨q17, d17, lo17, rfl, hlo17, s17, n17, k17⟩
              have KA17 := Lib.hid (next0 KA16.out k17)
              have hz17 : (wb16).heap.size ≤ wa17.heap.size := k17.size
              have hl17 : lo17 = (wb16).heap.size := hlo17
              obtain ⟨hi17, hh17⟩ : ∃ m, m = wa17.heap.size := ⟨_, rfl⟩
              rw [← hh17] at s17
              have SN17 := Lib.hid s17
              have KJ17 := Lib.hid k17
              clear hlo17 s17 n17 k17
              have HA9_17 := Lib.hid (HA9_16.out.step0 KJ17.out)
              have HA10_17 := Lib.hid (HN16.out.step0 KJ17.out)
              have SA9_17 := Lib.hid (SA9_16.out.frame (w' := wa17) fun b o hb => (KJ17.out).cell (p := ⟨b, o, none⟩) (okq (a := w6.heap.size) (lo := lo1) (hi := hi1) (show w6.heap.size ≤ (wb16).heap.size from KA16.out.size) (show hi1 ≤ (wb16).heap.size by omega) b hb))
              refine hK.out _ _ (Hb.out _ KA17.out) (fun hHeld => ?_)
              clear hK K
              (try simp only [List.getElem_toArray, List.getElem_cons_zero, List.getElem_cons_succ, Act.put, List.setIfInBounds_toArray, List.set_cons_zero, List.set_cons_succ])
              refine wpAnyH_ready (rs := [8]) (by kernel_rfl) (by simp) ?_
              refine AllReadyH.cons rfl (fun K hK => ?_) AllReadyH.nil
              obtain ⟨f1, f2, f3, f4, f5⟩ := HA9_17.out.two
              go_simp
              (try go_split_ands)
              obtain ⟨ws18, hw18⟩ : ∃ z, z = ((wa17).setCell ⟨(wa1).heap.size, 0, none⟩ (.string xn)).setCell ⟨(wa1).heap.size, 1, none⟩ (.slice q1 xl d1) := ⟨_, rfl⟩
              rw [← hw18]
              have hgw18 : w6.heap.size ≤ (wa1).heap.size := by omega
              have hne18 : (wb11).heap.size ≠ (wa1).heap.size := by omega
              have KA18 : Hid (Below w6.heap.size w6 ws18) := Lib.hid (by rw [hw18]; exact (KA17.out.setCell hgw18 _).setCell hgw18 _)
              have HN18 : Hid (Has ws18 (wa1).heap.size #[.string xn, .slice q1 xl d1]) := Lib.hid (by rw [hw18]; exact put_agg HA9_17.out _ _)
              have HO18 := Lib.hid (show Has ws18 (wb11).heap.size _ by rw [hw18]; exact far_agg hne18 HA10_17.out _ _)
              have hz18 : (wa17).heap.size ≤ ws18.heap.size := by rw [hw18]; simp [World.setCell]
              have SA9_18 := Lib.hid (show SlIn _ ws18 x.args (.slice q1 xl d1) by rw [hw18]; exact slin_far2 SA9_17.out (okn (a := w6.heap.size) (lo := lo1) (hi := hi1) hgw18 (by omega)) _ _)
              have SA10_18 := Lib.hid (show SlIn _ ws18 x.args (.slice q17 xl d17) by rw [hw18]; exact slin_far2 SN17.out (okn (a := w6.heap.size) (lo := lo17) (hi := hi17) hgw18 (by omega)) _ _)
              clear hw18 f1 f2 f3 f4 f5
              refine hK.out _ _ (Hb.out _ KA18.out) (fun hHeld => ?_)
              clear hK K
              (try simp only [List.getElem_toArray, List.getElem_cons_zero, List.getElem_cons_succ, Act.put, List.setIfInBounds_toArray, List.set_cons_zero, List.set_cons_succ])
              refine wpAnyH_ready (rs := [9]) (by kernel_rfl) (by simp) ?_
              refine AllReadyH.cons rfl (fun K hK => ?_) AllReadyH.nil
              obtain ⟨f1, f2, f3, f4, f5⟩ := HO18.out.two
              go_simp
              (try go_split_ands)
              obtain ⟨ws19, hw19⟩ : ∃ z, z = ((ws18).setCell ⟨(wb11).heap.size, 0, none⟩ (.string xn)).setCell ⟨(wb11).heap.size, 1, none⟩ (.slice q17 xl d17) := ⟨_, rfl⟩
              rw [← hw19]
              have hgw19 : w6.heap.size ≤ (wb11).heap.size := by omega
              have hne19 : (wa1).heap.size ≠ (wb11).heap.size := by omega
              have KA19 : Hid (Below w6.heap.size w6 ws19) := Lib.hid (by rw [hw19]; exact (KA18.out.setCell hgw19 _).setCell hgw19 _)
              have HN19 : Hid (Has ws19 (wb11).heap.size #[.string xn, .slice q17 xl d17]) := Lib.hid (by rw [hw19]; exact put_agg HO18.out _ _)
              have HO19 := Lib.hid (show Has ws19 (wa1).heap.size _ by rw [hw19]; exact far_agg hne19 HN18.out _ _)
              have hz19 : (ws18).heap.size ≤ ws19.heap.size := by rw [hw19]; simp [World.setCell]
              have SA9_19 := Lib.hid (show SlIn _ ws19 x.args (.slice q1 xl d1) by rw [hw19]; exact slin_far2 SA9_18.out (okn (a := w6.heap.size) (lo := lo1) (hi := hi1) hgw19 (by omega)) _ _)
              have SA10_19 := Lib.hid (show SlIn _ ws19 x.args (.slice q17 xl d17) by rw [hw19]; exact slin_far2 SA10_18.out (okn (a := w6.heap.size) (lo := lo17) (hi := hi17) hgw19 (by omega)) _ _)
              clear hw19 f1 f2 f3 f4 f5
              refine hK.out _ _ (Hb.out _ KA19.out) (fun hHeld => ?_)
              clear hK K
              (try simp only [List.getElem_toArray, List.getElem_cons_zero, List.getElem_cons_succ, Act.put, List.setIfInBounds_toArray, List.set_cons_zero, List.set_cons_succ])
              have FIN9 := Lib.hid (SA9_19.out.weaken (ok' := (· < ws19.heap.size)) (okq (a := w6.heap.size) (lo := lo1) (hi := hi1) KA19.out.size (show hi1 ≤ ws19.heap.size by omega)))
              have FIN10 := Lib.hid (SA10_19.out.weaken (ok' := (· < ws19.heap.size)) (okq (a := w6.heap.size) (lo := lo17) (hi := hi17) KA19.out.size (show hi17 ≤ ws19.heap.size by omega)))
              refine wpAnyH_done (by kernel_rfl) ?_ _
              go_wp2_with fail
              go_meet
              exact ⟨(wa1).heap.size, (wb11).heap.size, q1, q17, d1, d17, rfl, rfl, HO19, HN19, FIN9, FIN10, KA19⟩
          · skip
            go_simp
            (try go_split_ands)
            obtain ⟨wb20, hw20⟩ : ∃ z, z = (wa1).alloc (.cells #[.string ⟨#[]⟩, .slice none 0 0] 27) := ⟨_, rfl⟩
            rw [← hw20]
            have J20 : Hid (Below (wa1).heap.size (wa1) wb20) := Lib.hid (by rw [hw20]; exact below_alloc _ _)
            have HN20 : Hid (Has wb20 (wa1).heap.size #[.string ⟨#[]⟩, .slice none 0 0]) := Lib.hid (by rw [hw20]; exact Has.new _ _ _)
            have KA20 := Lib.hid (next0 KA1.out J20.out)
            have hz20 : (wa1).heap.size + 1 ≤ wb20.heap.size := by rw [hw20]; simp
            clear hw20
            have SA9_20 := Lib.hid (SN1.out.frame (w' := wb20) fun b o hb => (J20.out).cell (p := ⟨b, o, none⟩) (okq (a := w6.heap.size) (lo := lo1) (hi := hi1) (show w6.heap.size ≤ (wa1).heap.size from KA1.out.size) (show hi1 ≤ (wa1).heap.size by omega) b hb))
            refine hK.out _ _ (Hb.out _ KA20.out) (fun hHeld => ?_)
            clear hK K
            (try simp only [List.getElem_toArray, List.getElem_cons_zero, List.getElem_cons_succ, Act.put, List.setIfInBounds_toArray, List.set_cons_zero, List.set_cons_succ])
            refine wpAnyH_ready (rs := [5, 6]) (by kernel_rfl) (by simp) ?_
            refine (AllReadyH.cons rfl (fun K hK => ?_) (AllReadyH.cons rfl (fun K hK => ?_) AllReadyH.nil))
            · skip
              go_simp
              (try go_split_ands)
              go_at_call 21
              (with_reducible refine (B6.out _ KA20.out).mono ?_)
              rintro e wa21 ⟨q21, d21, lo21, rfl, hlo21, s21, n21, k21⟩
              have KA21 := Lib.hid (next0 KA20.out k21)
              have hz21 : (wb20).heap.size ≤ wa21.heap.size := k21.size
              have hl21 : lo21 = (wb20).heap.size := hlo21
              obtain ⟨hi21, hh21⟩ : ∃ m, m = wa21.heap.size := ⟨_, rfl⟩
              rw [← hh21] at s21
              have SN21 := Lib.hid s21
              have KJ21 := Lib.hid k21
              clear hlo21 s21 n21 k21
              have HA10_21 := Lib.hid (HN20.out.step0 KJ21.out)
              have SA9_21 := Lib.hid (SA9_20.out.frame (w' := wa21) fun b o hb => (KJ21.out).cell (p := ⟨b, o, none⟩) (okq (a := w6.heap.size) (lo := lo1) (hi := hi1) (show w6.heap.size ≤ (wb20).heap.size from KA20.out.size) (show hi1 ≤ (wb20).heap.size by omega) b hb))
              refine hK.out _ _ (Hb.out _ KA21.out) (fun hHeld => ?_)
              clear hK K
              (try simp only [List.getElem_toArray, List.getElem_cons_zero, List.getElem_cons_succ, Act.put, List.setIfInBounds_toArray, List.set_cons_zero, List.set_cons_succ])
              refine wpAnyH_ready (rs := [6]) (by kernel_rfl) (by simp) ?_
              refine AllReadyH.cons rfl (fun K hK => ?_) AllReadyH.nil
              go_simp
              (try go_split_ands)
              obtain ⟨wb22, hw22⟩ : ∃ z, z = (wa21).alloc (.cells #[.string ⟨#[]⟩, .slice none 0 0] 27) := ⟨_, rfl⟩
              rw [← hw22]
              have J22 : Hid (Below (wa21).heap.size (wa21) wb22) := Lib.hid (by rw [hw22]; exact below_alloc _ _)
              have HN22 : Hid (Has wb22 (wa21).heap.size #[.string ⟨#[]⟩, .slice none 0 0]) := Lib.hid (by rw [hw22]; exact Has.new _ _ _)
              have KA22 := Lib.hid (next0 KA21.out J22.out)
              have hz22 : (wa21).heap.size + 1 ≤ wb22.heap.size := by rw [hw22]; simp
              clear hw22
              have HA10_22 := Lib.hid (HA10_21.out.step0 J22.out)
              have SA9_22 := Lib.hid (SA9_21.out.frame (w' := wb22) fun b o hb => (J22.out).cell (p := ⟨b, o, none⟩) (okq (a := w6.heap.size) (lo := lo1) (hi := hi1) (show w6.heap.size ≤ (wa21).heap.size from KA21.out.size) (show hi1 ≤ (wa21).heap.size by omega) b hb))
              have SA10_22 := Lib.hid (SN21.out.frame (w' := wb22) fun b o hb => (J22.out).cell (p := ⟨b, o, none⟩) (okq (a := w6.heap.size) (lo := lo21) (hi := hi21) (show w6.heap.size ≤ (wa21).heap.size from KA21.out.size) (show hi21 ≤ (wa21).heap.size by omega) b hb))
              refine hK.out _ _ (Hb.out _ KA22.out) (fun hHeld => ?_)
              clear hK K
              (try simp only [List.getElem_toArray, List.getElem_cons_zero, List.getElem_cons_succ, Act.put, List.setIfInBounds_toArray, List.set_cons_zero, List.set_cons_succ])
              refine wpAnyH_ready (rs := [8]) (by kernel_rfl) (by simp) ?_
              refine AllReadyH.cons rfl (fun K hK => ?_) AllReadyH.nil
              obtain ⟨f1, f2, f3, f4, f5⟩ := HN22.out.two
              go_simp
              (try go_split_ands)
              obtain ⟨ws23, hw23⟩ : ∃ z, z = ((wb22).setCell ⟨(wa21).heap.size, 0, none⟩ (.string xn)).setCell ⟨(wa21).heap.size, 1, none⟩ (.slice q1 xl d1) := ⟨_, rfl⟩
              rw [← hw23]
              have hgw23 : w6.heap.size ≤ (wa21).heap.size := by omega
              have hne23 : (wa1).heap.size ≠ (wa21).heap.size := by omega
              have KA23 : Hid (Below w6.heap.size w6 ws23) := Lib.hid (by rw [hw23]; exact (KA22.out.setCell hgw23 _).setCell hgw23 _)
              have HN23 : Hid (Has ws23 (wa21).heap.size #[.string xn, .slice q1 xl d1]) := Lib.hid (by rw [hw23]; exact put_agg HN22.out _ _)
              have HO23 := Lib.hid (show Has ws23 (wa1).heap.size _ by rw [hw23]; exact far_agg hne23 HA10_22.out _ _)
              have hz23 : (wb22).heap.size ≤ ws23.heap.size := by rw [hw23]; simp [World.setCell]
              have SA9_23 := Lib.hid (show SlIn _ ws23 x.args (.slice q1 xl d1) by rw [hw23]; exact slin_far2 SA9_22.out (okn (a := w6.heap.size) (lo := lo1) (hi := hi1) hgw23 (by omega)) _ _)
              have SA10_23 := Lib.hid (show SlIn _ ws23 x.args (.slice q21 xl d21) by rw [hw23]; exact slin_far2 SA10_22.out (okn (a := w6.heap.size) (lo := lo21) (hi := hi21) hgw23 (by omega)) _ _)
              clear hw23 f1 f2 f3 f4 f5
              refine hK.out _ _ (Hb.out _ KA23.out) (fun hHeld => ?_)
              clear hK K
              (try simp only [List.getElem_toArray, List.getElem_cons_zero, List.getElem_cons_succ, Act.put, List.setIfInBounds_toArray, List.set_cons_zero, List.set_cons_succ])
              refine wpAnyH_ready (rs := [9]) (by kernel_rfl) (by simp) ?_
              refine AllReadyH.cons rfl (fun K hK => ?_) AllReadyH.nil
              obtain ⟨f1, f2, f3, f4, f5⟩ := HO23.out.two
              go_simp
              (try go_split_ands)
              obtain ⟨ws24, hw24⟩ : ∃ z, z = ((ws23).setCell ⟨(wa1).heap.size, 0, none⟩ (.string xn)).setCell ⟨(wa1).heap.size, 1, none⟩ (.slice q21 xl d21) := ⟨_, rfl⟩
              rw [← hw24]
              have hgw24 : w6.heap.size ≤ (wa1).heap.size := by omega
              have hne24 : (wa21).heap.size ≠ (wa1).heap.size := by omega
              have KA24 : Hid (Below w6.heap.size w6 ws24) := Lib.hid (by rw [hw24]; exact (KA23.out.setCell hgw24 _).setCell hgw24 _)
              have HN24 : Hid (Has ws24 (wa1).heap.size #[.string xn, .slice q21 xl d21]) := Lib.hid (by rw [hw24]; exact put_agg HO23.out _ _)
              have HO24 := Lib.hid (show Has ws24 (wa21).heap.size _ by rw [hw24]; exact far_agg hne24 HN23.out _ _)
              have hz24 : (ws23).heap.size ≤ ws24.heap.size := by rw [hw24]; simp [World.setCell]
              have SA9_24 := Lib.hid (show SlIn _ ws24 x.args (.slice q1 xl d1) by rw [hw24]; exact slin_far2 SA9_23.out (okn (a := w6.heap.size) (lo := lo1) (hi := hi1) hgw24 (by omega)) _ _)
              have SA10_24 := Lib.hid (show SlIn _ ws24 x.args (.slice q21 xl d21) by rw [hw24]; exact slin_far2 SA10_23.out (okn (a := w6.heap.size) (lo := lo21) (hi := hi21) hgw24 (by omega)) _ _)
              clear hw24 f1 f2 f3 f4 f5
              refine hK.out _ _ (Hb.out _ KA24.out) (fun hHeld => ?_)
              clear hK K
              (try simp only [List.getElem_toArray, List.getElem_cons_zero, List.getElem_cons_succ, Act.put, List.setIfInBounds_toArray, List.set_cons_zero, List.set_cons_succ])
              have FIN9 := Lib.hid (SA9_24.out.weaken (ok' := (· < ws24.heap.size)) (okq (a := w6.heap.size) (lo := lo1) (hi := hi1) KA24.out.size (show hi1 ≤ ws24.heap.size by omega)))
              have FIN10 := Lib.hid (SA10_24.out.weaken (ok' := (· < ws24.heap.size)) (okq (a := w6.heap.size) (lo := lo21) (hi := hi21) KA24.out.size (show hi21 ≤ ws24.heap.size by omega)))
              refine wpAnyH_done (by kernel_rfl) ?_ _
              go_wp2_with fail
              go_meet
              exact ⟨(wa21).heap.size, (wa1).heap.size, q1, q21, d1, d21, rfl, rfl, HO24, HN24, FIN9, FIN10, KA24⟩
            · skip
              go_simp
              (try go_split_ands)
              obtain ⟨wb25, hw25⟩ : ∃ z, z = (wb20).alloc (.cells #[.string ⟨#[]⟩, .slice none 0 0] 27) := ⟨_, rfl⟩
              rw [← hw25]
              have J25 : Hid (Below (wb20).heap.size (wb20) wb25) := Lib.hid (by rw [hw25]; exact below_alloc _ _)
              have HN25 : Hid (Has wb25 (wb20).heap.size #[.string ⟨#[]⟩, .slice none 0 0]) := Lib.hid (by rw [hw25]; exact Has.new _ _ _)
              have KA25 := Lib.hid (next0 KA20.out J25.out)
              have hz25 : (wb20).heap.size + 1 ≤ wb25.heap.size := by rw [hw25]; simp
              clear hw25
              have HA10_25 := Lib.hid (HN20.out.step0 J25.out)
              have SA9_25 := Lib.hid (SA9_20.out.frame (w' := wb25) fun b o hb => (J25.out).cell (p := ⟨b, o, none⟩) (okq (a := w6.heap.size) (lo := lo1) (hi := hi1) (show w6.heap.size ≤ (wb20).heap.size from KA20.out.size) (show hi1 ≤ (wb20).heap.size by omega) b hb))
              refine hK.out _ _ (Hb.out _ KA25.out) (fun hHeld => ?_)
              clear hK K
              (try simp only [List.getElem_toArray, List.getElem_cons_zero, List.getElem_cons_succ, Act.put, List.setIfInBounds_toArray, List.set_cons_zero, List.set_cons_succ])
              refine wpAnyH_ready (rs := [5]) (by kernel_rfl) (by simp) ?_
              refine AllReadyH.cons rfl (fun K hK => ?_) AllReadyH.nil
              go_simp
              (try go_split_ands)
              go_at_call 21
              (with_reducible refine (B6.out _ KA25.out).mono ?_)
              rintro e wa26 ⟨q26, d26, lo26, rfl, hlo26, s26, n26, k26⟩
              have KA26 := Lib.hid (next0 KA25.out k26)
              have hz26 : (wb25).heap.size ≤ wa26.heap.size := k26.size
              have hl26 : lo26 = (wb25).heap.size := hlo26
              obtain ⟨hi26, hh26⟩ : ∃ m, m = wa26.heap.size := ⟨_, rfl⟩
              rw [← hh26] at s26
              have SN26 := Lib.hid s26
              have KJ26 := Lib.hid k26
              clear hlo26 s26 n26 k26
              have HA10_26 := Lib.hid (HA10_25.out.step0 KJ26.out)
              have HA9_26 := Lib.hid (HN25.out.step0 KJ26.out)
              have SA9_26 := Lib.hid (SA9_25.out.frame (w' := wa26) fun b o hb => (KJ26.out).cell (p := ⟨b, o, none⟩) (okq (a := w6.heap.size) (lo := lo1) (hi := hi1) (show w6.heap.size ≤ (wb25).heap.size from KA25.out.size) (show hi1 ≤ (wb25).heap.size by omega) b hb))
              refine hK.out _ _ (Hb.out _ KA26.out) (fun hHeld => ?_)
              clear hK K
              (try simp only [List.getElem_toArray, List.getElem_cons_zero, List.getElem_cons_succ, Act.put, List.setIfInBounds_toArray, List.set_cons_zero, List.set_cons_succ])
              refine wpAnyH_ready (rs := [8]) (by kernel_rfl) (by simp) ?_
              refine AllReadyH.cons rfl (fun K hK => ?_) AllReadyH.nil
              obtain ⟨f1, f2, f3, f4, f5⟩ := HA9_26.out.two
              go_simp
              (try go_split_ands)
              obtain ⟨ws27, hw27⟩ : ∃ z, z = ((wa26).setCell ⟨(wb20).heap.size, 0, none⟩ (.string xn)).setCell ⟨(wb20).heap.size, 1, none⟩ (.slice q1 xl d1) := ⟨_, rfl⟩
              rw [← hw27]
              have hgw27 : w6.heap.size ≤ (wb20).heap.size := by omega
              have hne27 : (wa1).heap.size ≠ (wb20).heap.size := by omega
              have KA27 : Hid (Below w6.heap.size w6 ws27) := Lib.hid (by rw [hw27]; exact (KA26.out.setCell hgw27 _).setCell hgw27 _)
              have HN27 : Hid (Has ws27 (wb20).heap.size #[.string xn, .slice q1 xl d1]) := Lib.hid (by rw [hw27]; exact put_agg HA9_26.out _ _)
              have HO27 := Lib.hid (show Has ws27 (wa1).heap.size _ by rw [hw27]; exact far_agg hne27 HA10_26.out _ _)
              have hz27 : (wa26).heap.size ≤ ws27.heap.size := by rw [hw27]; simp [World.setCell]
              have SA9_27 := Lib.hid (show SlIn _ ws27 x.args (.slice q1 xl d1) by rw [hw27]; exact slin_far2 SA9_26.out (okn (a := w6.heap.size) (lo := lo1) (hi := hi1) hgw27 (by omega)) _ _)
              have SA10_27 := Lib.hid (show SlIn _ ws27 x.args (.slice q26 xl d26) by rw [hw27]; exact slin_far2 SN26.out (okn (a := w6.heap.size) (lo := lo26) (hi := hi26) hgw27 (by omega)) _ _)
              clear hw27 f1 f2 f3 f4 f5
              refine hK.out _ _ (Hb.out _ KA27.out) (fun hHeld => ?_)
              clear hK K
              (try simp only [List.getElem_toArray, List.getElem_cons_zero, List.getElem_cons_succ, Act.put, List.setIfInBounds_toArray, List.set_cons_zero, List.set_cons_succ])
              refine wpAnyH_ready (rs := [9]) (by kernel_rfl) (by simp) ?_
              refine AllReadyH.cons rfl (fun K hK => ?_) AllReadyH.nil
              obtain ⟨f1, f2, f3, f4, f5⟩ := HO27.out.two
              go_simp
              (try go_split_ands)
              obtain ⟨ws28, hw28⟩ : ∃ z, z = ((ws27).setCell ⟨(wa1).heap.size, 0, none⟩ (.string xn)).setCell ⟨(wa1).heap.size, 1, none⟩ (.slice q26 xl d26) := ⟨_, rfl⟩
              rw [← hw28]
              have hgw28 : w6.heap.size ≤ (wa1).heap.size := by omega
              have hne28 : (wb20).heap.size ≠ (wa1).heap.size := by omega
              have KA28 : Hid (Below w6.heap.size w6 ws28) := Lib.hid (by rw [hw28]; exact (KA27.out.setCell hgw28 _).setCell hgw28 _)
              have HN28 : Hid (Has ws28 (wa1).heap.size #[.string xn, .slice q26 xl d26]) := Lib.hid (by rw [hw28]; exact put_agg HO27.out _ _)
              have HO28 := Lib.hid (show Has ws28 (wb20).heap.size _ by rw [hw28]; exact far_agg hne28 HN27.out _ _)
              have hz28 : (ws27).heap.size ≤ ws28.heap.size := by rw [hw28]; simp [World.setCell]
              have SA9_28 := Lib.hid (show SlIn _ ws28 x.args (.slice q1 xl d1) by rw [hw28]; exact slin_far2 SA9_27.out (okn (a := w6.heap.size) (lo := lo1) (hi := hi1) hgw28 (by omega)) _ _)
              have SA10_28 := Lib.hid (show SlIn _ ws28 x.args (.slice q26 xl d26) by rw [hw28]; exact slin_far2 SA10_27.out (okn (a := w6.heap.size) (lo := lo26) (hi := hi26) hgw28 (by omega)) _ _)
              clear hw28 f1 f2 f3 f4 f5
              refine hK.out _ _ (Hb.out _ KA28.out) (fun hHeld => ?_)
              clear hK K
              (try simp only [List.getElem_toArray, List.getElem_cons_zero, List.getElem_cons_succ, Act.put, List.setIfInBounds_toArray, List.set_cons_zero, List.set_cons_succ])
              have FIN9 := Lib.hid (SA9_28.out.weaken (ok' := (· < ws28.heap.size)) (okq (a := w6.heap.size) (lo := lo1) (hi := hi1) KA28.out.size (show hi1 ≤ ws28.heap.size by omega)))
              have FIN10 := Lib.hid (SA10_28.out.weaken (ok' := (· < ws28.heap.size)) (okq (a := w6.heap.size) (lo := lo26) (hi := hi26) KA28.out.size (show hi26 ≤ ws28.heap.size by omega)))
              refine wpAnyH_done (by kernel_rfl) ?_ _
              go_wp2_with fail
              go_meet
              exact ⟨(wb20).heap.size, (wa1).heap.size, q1, q26, d1, d26, rfl, rfl, HO28, HN28, FIN9, FIN10, KA28⟩
        · skip
          go_simp
          (try go_split_ands)
          obtain ⟨wb29, hw29⟩ : ∃ z, z = (w0).alloc (.cells #[.string ⟨#[]⟩, .slice none 0 0] 27) := ⟨_, rfl⟩
          rw [← hw29]
          have J29 : Hid (Below (w0).heap.size (w0) wb29) := Lib.hid (by rw [hw29]; exact below_alloc _ _)
          have HN29 : Hid (Has wb29 (w0).heap.size #[.string ⟨#[]⟩, .slice none 0 0]) := Lib.hid (by rw [hw29]; exact Has.new _ _ _)
          have KA29 := Lib.hid (next0 K0.out J29.out)
          have hz29 : (w0).heap.size + 1 ≤ wb29.heap.size := by rw [hw29]; simp
          clear hw29
          refine hK.out _ _ (Hb.out _ KA29.out) (fun hHeld => ?_)
          clear hK K
          (try simp only [List.getElem_toArray, List.getElem_cons_zero, List.getElem_cons_succ, Act.put, List.setIfInBounds_toArray, List.set_cons_zero, List.set_cons_succ])
          refine wpAnyH_ready (rs := [2, 7]) (by kernel_rfl) (by simp) ?_
          refine (AllReadyH.cons rfl (fun K hK => ?_) (AllReadyH.cons rfl (fun K hK => ?_) AllReadyH.nil))
          · skip
            go_simp
            (try go_split_ands)
            go_at_call 21
            (with_reducible refine (A6.out _ KA29.out).mono ?_)
            rintro e wa30 ⟨q30, d30, lo30, rfl, hlo30, s30, n30, k30⟩
            have KA30 := Lib.hid (next0 KA29.out k30)
            have hz30 : (wb29).heap.size ≤ wa30.heap.size := k30.size
            have hl30 : lo30 = (wb29).heap.size := hlo30
            obtain ⟨hi30, hh30⟩ : ∃ m, m = wa30.heap.size := ⟨_, rfl⟩
            rw [← hh30] at s30
            have SN30 := Lib.hid s30
            have KJ30 := Lib.hid k30
            clear hlo30 s30 n30 k30
            have HA9_30 := Lib.hid (HN29.out.step0 KJ30.out)
            refine hK.out _ _ (Hb.out _ KA30.out) (fun hHeld => ?_)
            clear hK K
            (try simp only [List.getElem_toArray, List.getElem_cons_zero, List.getElem_cons_succ, Act.put, List.setIfInBounds_toArray, List.set_cons_zero, List.set_cons_succ])
            refine wpAnyH_ready (rs := [5, 7]) (by kernel_rfl) (by simp) ?_
            refine (AllReadyH.cons rfl (fun K hK => ?_) (AllReadyH.cons rfl (fun K hK => ?_) AllReadyH.nil))
            · skip
              go_simp
              (try go_split_ands)
              go_at_call 21
              (with_reducible refine (B6.out _ KA30.out).mono ?_)
              rintro e wa31 ⟨q31, d31, lo31, rfl, hlo31, s31, n31, k31⟩
              have KA31 := Lib.hid (next0 KA30.out k31)
              have hz31 : (wa30).heap.size ≤ wa31.heap.size := k31.size
              have hl31 : lo31 = (wa30).heap.size := hlo31
              obtain ⟨hi31, hh31⟩ : ∃ m, m = wa31.heap.size := ⟨_, rfl⟩
              rw [← hh31] at s31
              have SN31 := Lib.hid s31
              have KJ31 := Lib.hid k31
              clear hlo31 s31 n31 k31
              have HA9_31 := Lib.hid (HA9_30.out.step0 KJ31.out)
              have SA9_31 := Lib.hid (SN30.out.frame (w' := wa31) fun b o hb => (KJ31.out).cell (p := ⟨b, o, none⟩) (okq (a := w6.heap.size) (lo := lo30) (hi := hi30) (show w6.heap.size ≤ (wa30).heap.size from KA30.out.size) (show hi30 ≤ (wa30).heap.size by omega) b hb))
              refine hK.out _ _ (Hb.out _ KA31.out) (fun hHeld => ?_)
              clear hK K
              (try simp only [List.getElem_toArray, List.getElem_cons_zero, List.getElem_cons_succ, Act.put, List.setIfInBounds_toArray, List.set_cons_zero, List.set_cons_succ])
              refine wpAnyH_ready (rs := [7]) (by kernel_rfl) (by simp) ?_
              refine AllReadyH.cons rfl (fun K hK => ?_) AllReadyH.nil
              go_simp
              (try go_split_ands)
              obtain ⟨wb32, hw32⟩ : ∃ z, z = (wa31).alloc (.cells #[.string ⟨#[]⟩, .slice none 0 0] 27) := ⟨_, rfl⟩
              rw [← hw32]
              have J32 : Hid (Below (wa31).heap.size (wa31) wb32) := Lib.hid (by rw [hw32]; exact below_alloc _ _)
              have HN32 : Hid (Has wb32 (wa31).heap.size #[.string ⟨#[]⟩, .slice none 0 0]) := Lib.hid (by rw [hw32]; exact Has.new _ _ _)
              have KA32 := Lib.hid (next0 KA31.out J32.out)
              have hz32 : (wa31).heap.size + 1 ≤ wb32.heap.size := by rw [hw32]; simp
              clear hw32
              have HA9_32 := Lib.hid (HA9_31.out.step0 J32.out)
              have SA9_32 := Lib.hid (SA9_31.out.frame (w' := wb32) fun b o hb => (J32.out).cell (p := ⟨b, o, none⟩) (okq (a := w6.heap.size) (lo := lo30) (hi := hi30) (show w6.heap.size ≤ (wa31).heap.size from KA31.out.size) (show hi30 ≤ (wa31).heap.size by omega) b hb))
              have SA10_32 := Lib.hid (SN31.out.frame (w' := wb32) fun b o hb => (J32.out).cell (p := ⟨b, o, none⟩) (okq (a := w6.heap.size) (lo := lo31) (hi := hi31) (show w6.heap.size ≤ (wa31).heap.size from KA31.out.size) (show hi31 ≤ (wa31).heap.size by omega) b hb))
              refine hK.out _ _ (Hb.out _ KA32.out) (fun hHeld => ?_)
              clear hK K
              (try simp only [List.getElem_toArray, List.getElem_cons_zero, List.getElem_cons_succ, Act.put, List.setIfInBounds_toArray, List.set_cons_zero, List.set_cons_succ])
              refine wpAnyH_ready (rs := [8]) (by kernel_rfl) (by simp) ?_
              refine AllReadyH.cons rfl (fun K hK => ?_) AllReadyH.nil
              obtain ⟨f1, f2, f3, f4, f5⟩ := HA9_32.out.two
              go_simp
              (try go_split_ands)
              obtain ⟨ws33, hw33⟩ : ∃ z, z = ((wb32).setCell ⟨(w0).heap.size, 0, none⟩ (.string xn)).setCell ⟨(w0).heap.size, 1, none⟩ (.slice q30 xl d30) := ⟨_, rfl⟩
              rw [← hw33]
              have hgw33 : w6.heap.size ≤ (w0).heap.size := by omega
              have hne33 : (wa31).heap.size ≠ (w0).heap.size := by omega
              have KA33 : Hid (Below w6.heap.size w6 ws33) := Lib.hid (by rw [hw33]; exact (KA32.out.setCell hgw33 _).setCell hgw33 _)
              have HN33 : Hid (Has ws33 (w0).heap.size #[.string xn, .slice q30 xl d30]) := Lib.hid (by rw [hw33]; exact put_agg HA9_32.out _ _)
              have HO33 := Lib.hid (show Has ws33 (wa31).heap.size _ by rw [hw33]; exact far_agg hne33 HN32.out _ _)
              have hz33 : (wb32).heap.size ≤ ws33.heap.size := by rw [hw33]; simp [World.setCell]
              have SA9_33 := Lib.hid (show SlIn _ ws33 x.args (.slice q30 xl d30) by rw [hw33]; exact slin_far2 SA9_32.out (okn (a := w6.heap.size) (lo := lo30) (hi := hi30) hgw33 (by omega)) _ _)
              have SA10_33 := Lib.hid (show SlIn _ ws33 x.args (.slice q31 xl d31) by rw [hw33]; exact slin_far2 SA10_32.out (okn (a := w6.heap.size) (lo := lo31) (hi := hi31) hgw33 (by omega)) _ _)
              clear hw33 f1 f2 f3 f4 f5
              refine hK.out _ _ (Hb.out _ KA33.out) (fun hHeld => ?_)
              clear hK K
              (try simp only [List.getElem_toArray, List.getElem_cons_zero, List.getElem_cons_succ, Act.put, List.setIfInBounds_toArray, List.set_cons_zero, List.set_cons_succ])
              refine wpAnyH_ready (rs := [9]) (by kernel_rfl) (by simp) ?_
              refine AllReadyH.cons rfl (fun K hK => ?_) AllReadyH.nil
              obtain ⟨f1, f2, f3, f4, f5⟩ := HO33.out.two
              go_simp
              (try go_split_ands)
              obtain ⟨ws34, hw34⟩ : ∃ z, z = ((ws33).setCell ⟨(wa31).heap.size, 0, none⟩ (.string xn)).setCell ⟨(wa31).heap.size, 1, none⟩ (.slice q31 xl d31) := ⟨_, rfl⟩
              rw [← hw34]
              have hgw34 : w6.heap.size ≤ (wa31).heap.size := by omega
              have hne34 : (w0).heap.size ≠ (wa31).heap.size := by omega
              have KA34 : Hid (Below w6.heap.size w6 ws34) := Lib.hid (by rw [hw34]; exact (KA33.out.setCell hgw34 _).setCell hgw34 _)
              have HN34 : Hid (Has ws34 (wa31).heap.size #[.string xn, .slice q31 xl d31]) := Lib.hid (by rw [hw34]; exact put_agg HO33.out _ _)
              have HO34 := Lib.hid (show Has ws34 (w0).heap.size _ by rw [hw34]; exact far_agg hne34 HN33.out _ _)
              have hz34 : (ws33).heap.size ≤ ws34.heap.size := by rw [hw34]; simp [World.setCell]
              have SA9_34 := Lib.hid (show SlIn _ ws34 x.args (.slice q30 xl d30) by rw [hw34]; exact slin_far2 SA9_33.out (okn (a := w6.heap.size) (lo := lo30) (hi := hi30) hgw34 (by omega)) _ _)
              have SA10_34 := Lib.hid (show SlIn _ ws34 x.args (.slice q31 xl d31) by rw [hw34]; exact slin_far2 SA10_33.out (okn (a := w6.heap.size) (lo := lo31) (hi := hi31) hgw34 (by omega)) _ _)
              clear hw34 f1 f2 f3 f4 f5
              refine hK.out _ _ (Hb.out _ KA34.out) (fun hHeld => ?_)
              clear hK K
              (try simp only [List.getElem_toArray, List.getElem_cons_zero, List.getElem_cons_succ, Act.put, List.setIfInBounds_toArray, List.set_cons_zero, List.set_cons_succ])
              have FIN9 := Lib.hid (SA9_34.out.weaken (ok' := (· < ws34.heap.size)) (okq (a := w6.heap.size) (lo := lo30) (hi := hi30) KA34.out.size (show hi30 ≤ ws34.heap.size by omega)))
              have FIN10 := Lib.hid (SA10_34.out.weaken (ok' := (· < ws34.heap.size)) (okq (a := w6.heap.size) (lo := lo31) (hi := hi31) KA34.out.size (show hi31 ≤ ws34.heap.size by omega)))
              refine wpAnyH_done (by kernel_rfl) ?_ _
              go_wp2_with fail
              go_meet
              exact ⟨(w0).heap.size, (wa31).heap.size, q30, q31, d30, d31, rfl, rfl, HO34, HN34, FIN9, FIN10, KA34⟩
            · skip
              go_simp
              (try go_split_ands)
              obtain ⟨wb35, hw35⟩ : ∃ z, z = (wa30).alloc (.cells #[.string ⟨#[]⟩, .slice none 0 0] 27) := ⟨_, rfl⟩
              rw [← hw35]
              have J35 : Hid (Below (wa30).heap.size (wa30) wb35) := Lib.hid (by rw [hw35]; exact below_alloc _ _)
              have HN35 : Hid (Has wb35 (wa30).heap.size #[.string ⟨#[]⟩, .slice none 0 0]) := Lib.hid (by rw [hw35]; exact Has.new _ _ _)
              have KA35 := Lib.hid (next0 KA30.out J35.out)
              have hz35 : (wa30).heap.size + 1 ≤ wb35.heap.size := by rw [hw35]; simp
              clear hw35
              have HA9_35 := Lib.hid (HA9_30.out.step0 J35.out)
              have SA9_35 := Lib.hid (SN30.out.frame (w' := wb35) fun b o hb => (J35.out).cell (p := ⟨b, o, none⟩) (okq (a := w6.heap.size) (lo := lo30) (hi := hi30) (show w6.heap.size ≤ (wa30).heap.size from KA30.out.size) (show hi30 ≤ (wa30).heap.size by omega) b hb))
              refine hK.out _ _ (Hb.out _ KA35.out) (fun hHeld => ?_)
              clear hK K
              (try simp only [List.getElem_toArray, List.getElem_cons_zero, List.getElem_cons_succ, Act.put, List.setIfInBounds_toArray, List.set_cons_zero, List.set_cons_succ])
              refine wpAnyH_ready (rs := [5]) (by kernel_rfl) (by simp) ?_
              refine AllReadyH.cons rfl (fun K hK => ?_) AllReadyH.nil
              go_simp
              (try go_split_ands)
              go_at_call 21
              (with_reducible refine (B6.out _ KA35.out).mono ?_)
              rintro e wa36 ⟨q36, d36, lo36, rfl, hlo36, s36, n36, k36⟩
              have KA36 := Lib.hid (next0 KA35.out k36)
              have hz36 : (wb35).heap.size ≤ wa36.heap.size := k36.size
              have hl36 : lo36 = (wb35).heap.size := hlo36
              obtain ⟨hi36, hh36⟩ : ∃ m, m = wa36.heap.size := ⟨_, rfl⟩
              rw [← hh36] at s36
              have SN36 := Lib.hid s36
              have KJ36 := Lib.hid k36
              clear hlo36 s36 n36 k36
              have HA9_36 := Lib.hid (HA9_35.out.step0 KJ36.out)
              have HA10_36 := Lib.hid (HN35.out.step0 KJ36.out)
              have SA9_36 := Lib.hid (SA9_35.out.frame (w' := wa36) fun b o hb => (KJ36.out).cell (p := ⟨b, o, none⟩) (okq (a := w6.heap.size) (lo := lo30) (hi := hi30) (show w6.heap.size ≤ (wb35).heap.size from KA35.out.size) (show hi30 ≤ (wb35).heap.size by omega) b hb))
              refine hK.out _ _ (Hb.out _ KA36.out) (fun hHeld => ?_)
              clear hK K
              (try simp only [List.getElem_toArray, List.getElem_cons_zero, List.getElem_cons_succ, Act.put, List.setIfInBounds_toArray, List.set_cons_zero, List.set_cons_succ])
              refine wpAnyH_ready (rs := [8]) (by kernel_rfl) (by simp) ?_
              refine AllReadyH.cons rfl (fun K hK => ?_) AllReadyH.nil
              obtain ⟨f1, f2, f3, f4, f5⟩ := HA9_36.out.two
              go_simp
              (try go_split_ands)
              obtain ⟨ws37, hw37⟩ : ∃ z, z = ((wa36).setCell ⟨(w0).heap.size, 0, none⟩ (.string xn)).setCell ⟨(w0).heap.size, 1, none⟩ (.slice q30 xl d30) := ⟨_, rfl⟩
              rw [← hw37]
              have hgw37 : w6.heap.size ≤ (w0).heap.size := by omega
              have hne37 : (wa30).heap.size ≠ (w0).heap.size := by omega
              have KA37 : Hid (Below w6.heap.size w6 ws37) := Lib.hid (by rw [hw37]; exact (KA36.out.setCell hgw37 _).setCell hgw37 _)
              have HN37 : Hid (Has ws37 (w0).heap.size #[.string xn, .slice q30 xl d30]) := Lib.hid (by rw [hw37]; exact put_agg HA9_36.out _ _)
              have HO37 := Lib.hid (show Has ws37 (wa30).heap.size _ by rw [hw37]; exact far_agg hne37 HA10_36.out _ _)
              have hz37 : (wa36).heap.size ≤ ws37.heap.size := by rw [hw37]; simp [World.setCell]
              have SA9_37 := Lib.hid (show SlIn _ ws37 x.args (.slice q30 xl d30) by rw [hw37]; exact slin_far2 SA9_36.out (okn (a := w6.heap.size) (lo := lo30) (hi := hi30) hgw37 (by omega)) _ _)
              have SA10_37 := Lib.hid (show SlIn _ ws37 x.args (.slice q36 xl d36) by rw [hw37]; exact slin_far2 SN36.out (okn (a := w6.heap.size) (lo := lo36) (hi := hi36) hgw37 (by omega)) _ _)
              clear hw37 f1 f2 f3 f4 f5
              refine hK.out _ _ (Hb.out _ KA37.out) (fun hHeld => ?_)
              clear hK K
              (try simp only [List.getElem_toArray, List.getElem_cons_zero, List.getElem_cons_succ, Act.put, List.setIfInBounds_toArray, List.set_cons_zero, List.set_cons_succ])
              refine wpAnyH_ready (rs := [9]) (by kernel_rfl) (by simp) ?_
              refine AllReadyH.cons rfl (fun K hK => ?_) AllReadyH.nil
              obtain ⟨f1, f2, f3, f4, f5⟩ := HO37.out.two
              go_simp
              (try go_split_ands)
              obtain ⟨ws38, hw38⟩ : ∃ z, z = ((ws37).setCell ⟨(wa30).heap.size, 0, none⟩ (.string xn)).setCell ⟨(wa30).heap.size, 1, none⟩ (.slice q36 xl d36) := ⟨_, rfl⟩
              rw [← hw38]
              have hgw38 : w6.heap.size ≤ (wa30).heap.size := by omega
              have hne38 : (w0).heap.size ≠ (wa30).heap.size := by omega
              have KA38 : Hid (Below w6.heap.size w6 ws38) := Lib.hid (by rw [hw38]; exact (KA37.out.setCell hgw38 _).setCell hgw38 _)
              have HN38 : Hid (Has ws38 (wa30).heap.size #[.string xn, .slice q36 xl d36]) := Lib.hid (by rw [hw38]; exact put_agg HO37.out _ _)
              have HO38 := Lib.hid (show Has ws38 (w0).heap.size _ by rw [hw38]; exact far_agg hne38 HN37.out _ _)
              have hz38 : (ws37).heap.size ≤ ws38.heap.size := by rw [hw38]; simp [World.setCell]
              have SA9_38 := Lib.hid (show SlIn _ ws38 x.args (.slice q30 xl d30) by rw [hw38]; exact slin_far2 SA9_37.out (okn (a := w6.heap.size) (lo := lo30) (hi := hi30) hgw38 (by omega)) _ _)
              have SA10_38 := Lib.hid (show SlIn _ ws38 x.args (.slice q36 xl d36) by rw [hw38]; exact slin_far2 SA10_37.out (okn (a := w6.heap.size) (lo := lo36) (hi := hi36) hgw38 (by omega)) _ _)
              clear hw38 f1 f2 f3 f4 f5
              refine hK.out _ _ (Hb.out _ KA38.out) (fun hHeld => ?_)
              clear hK K
              (try simp only [List.getElem_toArray, List.getElem_cons_zero, List.getElem_cons_succ, Act.put, List.setIfInBounds_toArray, List.set_cons_zero, List.set_cons_succ])
              have FIN9 := Lib.hid (SA9_38.out.weaken (ok' := (· < ws38.heap.size)) (okq (a := w6.heap.size) (lo := lo30) (hi := hi30) KA38.out.size (show hi30 ≤ ws38.heap.size by omega)))
              have FIN10 := Lib.hid (SA10_38.out.weaken (ok' := (· < ws38.heap.size)) (okq (a := w6.heap.size) (lo := lo36) (hi := hi36) KA38.out.size (show hi36 ≤ ws38.heap.size by omega)))
              refine wpAnyH_done (by kernel_rfl) ?_ _
              go_wp2_with fail
              go_meet
              exact ⟨(w0).heap.size, (wa30).heap.size, q30, q36, d30, d36, rfl, rfl, HO38, HN38, FIN9, FIN10, KA38⟩
          · skip
            go_simp
            (try go_split_ands)
            obtain ⟨wb39, hw39⟩ : ∃ z, z = (wb29).alloc (.cells #[.string ⟨#[]⟩, .slice none 0 0] 27) := ⟨_, rfl⟩
            rw [← hw39]
            have J39 : Hid (Below (wb29).heap.size (wb29) wb39) := Lib.hid (by rw [hw39]; exact below_alloc _ _)
            have HN39 : Hid (Has wb39 (wb29).heap.size #[.string ⟨#[]⟩, .slice none 0 0]) := Lib.hid (by rw [hw39]; exact Has.new _ _ _)
            have KA39 := Lib.hid (next0 KA29.out J39.out)
            have hz39 : (wb29).heap.size + 1 ≤ wb39.heap.size := by rw [hw39]; simp
            clear hw39
            have HA9_39 := Lib.hid (HN29.out.step0 J39.out)
            refine hK.out _ _ (Hb.out _ KA39.out) (fun hHeld => ?_)
            clear hK K
            (try simp only [List.getElem_toArray, List.getElem_cons_zero, List.getElem_cons_succ, Act.put, List.setIfInBounds_toArray, List.set_cons_zero, List.set_cons_succ])
            refine wpAnyH_ready (rs := [2]) (by kernel_rfl) (by simp) ?_
            refine AllReadyH.cons rfl (fun K hK => ?_) AllReadyH.nil
            go_simp
            (try go_split_ands)
            go_at_call 21
            (with_reducible refine (A6.out _ KA39.out).mono ?_)
            rintro e wa40 ⟨q40, d40, lo40, rfl, hlo40, s40, n40, k40⟩
            have KA40 := Lib.hid (next0 KA39.out k40)
            have hz40 : (wb39).heap.size ≤ wa40.heap.size := k40.size
            have hl40 : lo40 = (wb39).heap.size := hlo40
            obtain ⟨hi40, hh40⟩ : ∃ m, m = wa40.heap.size := ⟨_, rfl⟩
            rw [← hh40] at s40
            have SN40 := Lib.hid s40
            have KJ40 := Lib.hid k40
            clear hlo40 s40 n40 k40
            have HA9_40 := Lib.hid (HA9_39.out.step0 KJ40.out)
            have HA10_40 := Lib.hid (HN39.out.step0 KJ40.out)
            refine hK.out _ _ (Hb.out _ KA40.out) (fun hHeld => ?_)
            clear hK K
            (try simp only [List.getElem_toArray, List.getElem_cons_zero, List.getElem_cons_succ, Act.put, List.setIfInBounds_toArray, List.set_cons_zero, List.set_cons_succ])
            refine wpAnyH_ready (rs := [5]) (by kernel_rfl) (by simp) ?_
            refine AllReadyH.cons rfl (fun K hK => ?_) AllReadyH.nil
            go_simp
            (try go_split_ands)
            go_at_call 21
            (with_reducible refine (B6.out _ KA40.out).mono ?_)
            rintro e wa41 ⟨q41, d41, lo41, rfl, hlo41, s41, n41, k41⟩
            have KA41 := Lib.hid (next0 KA40.out k41)
            have hz41 : (wa40).heap.size ≤ wa41.heap.size := k41.size
            have hl41 : lo41 = (wa40).heap.size := hlo41
            obtain ⟨hi41, hh41⟩ : ∃ m, m = wa41.heap.size := ⟨_, rfl⟩
            rw [← hh41] at s41
            have SN41 := Lib.hid s41
            have KJ41 := Lib.hid k41
            clear hlo41 s41 n41 k41
            have HA9_41 := Lib.hid (HA9_40.out.step0 KJ41.out)
            have HA10_41 := Lib.hid (HA10_40.out.step0 KJ41.out)
            have SA9_41 := Lib.hid (SN40.out.frame (w' := wa41) fun b o hb => (KJ41.out).cell (p := ⟨b, o, none⟩) (okq (a := w6.heap.size) (lo := lo40) (hi := hi40) (show w6.heap.size ≤ (wa40).heap.size from KA40.out.size) (show hi40 ≤ (wa40).heap.size by omega) b hb))
            refine hK.out _ _ (Hb.out _ KA41.out) (fun hHeld => ?_)
            clear hK K
            (try simp only [List.getElem_toArray, List.getElem_cons_zero, List.getElem_cons_succ, Act.put, List.setIfInBounds_toArray, List.set_cons_zero, List.set_cons_succ])
            refine wpAnyH_ready (rs := [8]) (by kernel_rfl) (by simp) ?_
            refine AllReadyH.cons rfl (fun K hK => ?_) AllReadyH.nil
            obtain ⟨f1, f2, f3, f4, f5⟩ := HA9_41.out.two
            go_simp
            (try go_split_ands)
            obtain ⟨ws42, hw42⟩ : ∃ z, z = ((wa41).setCell ⟨(w0).heap.size, 0, none⟩ (.string xn)).setCell ⟨(w0).heap.size, 1, none⟩ (.slice q40 xl d40) := ⟨_, rfl⟩
            rw [← hw42]
            have hgw42 : w6.heap.size ≤ (w0).heap.size := by omega
            have hne42 : (wb29).heap.size ≠ (w0).heap.size := by omega
            have KA42 : Hid (Below w6.heap.size w6 ws42) := Lib.hid (by rw [hw42]; exact (KA41.out.setCell hgw42 _).setCell hgw42 _)
            have HN42 : Hid (Has ws42 (w0).heap.size #[.string xn, .slice q40 xl d40]) := Lib.hid (by rw [hw42]; exact put_agg HA9_41.out _ _)
            have HO42 := Lib.hid (show Has ws42 (wb29).heap.size _ by rw [hw42]; exact far_agg hne42 HA10_41.out _ _)
            have hz42 : (wa41).heap.size ≤ ws42.heap.size := by rw [hw42]; simp [World.setCell]
            have SA9_42 := Lib.hid (show SlIn _ ws42 x.args (.slice q40 xl d40) by rw [hw42]; exact slin_far2 SA9_41.out (okn (a := w6.heap.size) (lo := lo40) (hi := hi40) hgw42 (by omega)) _ _)
            have SA10_42 := Lib.hid (show SlIn _ ws42 x.args (.slice q41 xl d41) by rw [hw42]; exact slin_far2 SN41.out (okn (a := w6.heap.size) (lo := lo41) (hi := hi41) hgw42 (by omega)) _ _)
            clear hw42 f1 f2 f3 f4 f5
            refine hK.out _ _ (Hb.out _ KA42.out) (fun hHeld => ?_)
            clear hK K
            (try simp only [List.getElem_toArray, List.getElem_cons_zero, List.getElem_cons_succ, Act.put, List.setIfInBounds_toArray, List.set_cons_zero, List.set_cons_succ])
            refine wpAnyH_ready (rs := [9]) (by kernel_rfl) (by simp) ?_
            refine AllReadyH.cons rfl (fun K hK => ?_) AllReadyH.nil
            obtain ⟨f1, f2, f3, f4, f5⟩ := HO42.out.two
            go_simp
            (try go_split_ands)
            obtain ⟨ws43, hw43⟩ : ∃ z, z = ((ws42).setCell ⟨(wb29).heap.size, 0, none⟩ (.string xn)).setCell ⟨(wb29).heap.size, 1, none⟩ (.slice q41 xl d41) := ⟨_, rfl⟩
            rw [← hw43]
            have hgw43 : w6.heap.size ≤ (wb29).heap.size := by omega
            have hne43 : (w0).heap.size ≠ (wb29).heap.size := by omega
            have KA43 : Hid (Below w6.heap.size w6 ws43) := Lib.hid (by rw [hw43]; exact (KA42.out.setCell hgw43 _).setCell hgw43 _)
            have HN43 : Hid (Has ws43 (wb29).heap.size #[.string xn, .slice q41 xl d41]) := Lib.hid (by rw [hw43]; exact put_agg HO42.out _ _)
            have HO43 := Lib.hid (show Has ws43 (w0).heap.size _ by rw [hw43]; exact far_agg hne43 HN42.out _ _)
            have hz43 : (ws42).heap.size ≤ ws43.heap.size := by rw [hw43]; simp [World.setCell]
            have SA9_43 := Lib.hid (show SlIn _ ws43 x.args (.slice q40 xl d40) by rw [hw43]; exact slin_far2 SA9_42.out (okn (a := w6.heap.size) (lo := lo40) (hi := hi40) hgw43 (by omega)) _ _)
            have SA10_43 := Lib.hid (show SlIn _ ws43 x.args (.slice q41 xl d41) by rw [hw43]; exact slin_far2 SA10_42.out (okn (a := w6.heap.size) (lo := lo41) (hi := hi41) hgw43 (by omega)) _ _)
            clear hw43 f1 f2 f3 f4 f5
            refine hK.out _ _ (Hb.out _ KA43.out) (fun hHeld => ?_)
            clear hK K
            (try simp only [List.getElem_toArray, List.getElem_cons_zero, List.getElem_cons_succ, Act.put, List.setIfInBounds_toArray, List.set_cons_zero, List.set_cons_succ])
            have FIN9 := Lib.hid (SA9_43.out.weaken (ok' := (· < ws43.heap.size)) (okq (a := w6.heap.size) (lo := lo40) (hi := hi40) KA43.out.size (show hi40 ≤ ws43.heap.size by omega)))
            have FIN10 := Lib.hid (SA10_43.out.weaken (ok' := (· < ws43.heap.size)) (okq (a := w6.heap.size) (lo := lo41) (hi := hi41) KA43.out.size (show hi41 ≤ ws43.heap.size by omega)))
            refine wpAnyH_done (by kernel_rfl) ?_ _
            go_wp2_with fail
            go_meet
            exact ⟨(w0).heap.size, (wb29).heap.size, q40, q41, d40, d41, rfl, rfl, HO43, HN43, FIN9, FIN10, KA43⟩
        · skip
          go_simp
          (try go_split_ands)
          obtain ⟨wb44, hw44⟩ : ∃ z, z = (w0).alloc (.cells #[.string ⟨#[]⟩, .slice none 0 0] 27) := ⟨_, rfl⟩
          rw [← hw44]
          have J44 : Hid (Below (w0).heap.size (w0) wb44) := Lib.hid (by rw [hw44]; exact below_alloc _ _)
          have HN44 : Hid (Has wb44 (w0).heap.size #[.string ⟨#[]⟩, .slice none 0 0]) := Lib.hid (by rw [hw44]; exact Has.new _ _ _)
          have KA44 := Lib.hid (next0 K0.out J44.out)
          have hz44 : (w0).heap.size + 1 ≤ wb44.heap.size := by rw [hw44]; simp
          clear hw44
          refine hK.out _ _ (Hb.out _ KA44.out) (fun hHeld => ?_)
          clear hK K
          (try simp only [List.getElem_toArray, List.getElem_cons_zero, List.getElem_cons_succ, Act.put, List.setIfInBounds_toArray, List.set_cons_zero, List.set_cons_succ])
          refine wpAnyH_ready (rs := [2, 6]) (by kernel_rfl) (by simp) ?_
          refine (AllReadyH.cons rfl (fun K hK => ?_) (AllReadyH.cons rfl (fun K hK => ?_) AllReadyH.nil))
          · skip
            go_simp
            (try go_split_ands)
            go_at_call 21
            (with_reducible refine (A6.out _ KA44.out).mono ?_)
            rintro e wa45 ⟨q45, d45, lo45, rfl, hlo45, s45, n45, k45⟩
            have KA45 := Lib.hid (next0 KA44.out k45)
            have hz45 : (wb44).heap.size ≤ wa45.heap.size := k45.size
            have hl45 : lo45 = (wb44).heap.size := hlo45
            obtain ⟨hi45, hh45⟩ : ∃ m, m = wa45.heap.size := ⟨_, rfl⟩
            rw [← hh45] at s45
            have SN45 := Lib.hid s45
            have KJ45 := Lib.hid k45
            clear hlo45 s45 n45 k45
            have HA10_45 := Lib.hid (HN44.out.step0 KJ45.out)
            refine hK.out _ _ (Hb.out _ KA45.out) (fun hHeld => ?_)
            clear hK K
            (try simp only [List.getElem_toArray, List.getElem_cons_zero, List.getElem_cons_succ, Act.put, List.setIfInBounds_toArray, List.set_cons_zero, List.set_cons_succ])
            refine wpAnyH_ready (rs := [5, 6]) (by kernel_rfl) (by simp) ?_
            refine (AllReadyH.cons rfl (fun K hK => ?_) (AllReadyH.cons rfl (fun K hK => ?_) AllReadyH.nil))
            · skip
              go_simp
              (try go_split_ands)
              go_at_call 21
              (with_reducible refine (B6.out _ KA45.out).mono ?_)
              rintro e wa46 ⟨q46, d46, lo46, rfl, hlo46, s46, n46, k46⟩
              have KA46 := Lib.hid (next0 KA45.out k46)
              have hz46 : (wa45).heap.size ≤ wa46.heap.size := k46.size
              have hl46 : lo46 = (wa45).heap.size := hlo46
              obtain ⟨hi46, hh46⟩ : ∃ m, m = wa46.heap.size := ⟨_, rfl⟩
              rw [← hh46] at s46
              have SN46 := Lib.hid s46
              have KJ46 := Lib.hid k46
              clear hlo46 s46 n46 k46
              have HA10_46 := Lib.hid (HA10_45.out.step0 KJ46.out)
              have SA9_46 := Lib.hid (SN45.out.frame (w' := wa46) fun b o hb => (KJ46.out).cell (p := ⟨b, o, none⟩) (okq (a := w6.heap.size) (lo := lo45) (hi := hi45) (show w6.heap.size ≤ (wa45).heap.size from KA45.out.size) (show hi45 ≤ (wa45).heap.size by omega) b hb))
              refine hK.out _ _ (Hb.out _ KA46.out) (fun hHeld => ?_)
              clear hK K
              (try simp only [List.getElem_toArray, List.getElem_cons_zero, List.getElem_cons_succ, Act.put, List.setIfInBounds_toArray, List.set_cons_zero, List.set_cons_succ])
              refine wpAnyH_ready (rs := [6]) (by kernel_rfl) (by simp) ?_
              refine AllReadyH.cons rfl (fun K hK => ?_) AllReadyH.nil
              go_simp
              (try go_split_ands)
              obtain ⟨wb47, hw47⟩ : ∃ z, z = (wa46).alloc (.cells #[.string ⟨#[]⟩, .slice none 0 0] 27) := ⟨_, rfl⟩
              rw [← hw47]
              have J47 : Hid (Below (wa46).heap.size (wa46) wb47) := Lib.hid (by rw [hw47]; exact below_alloc _ _)
              have HN47 : Hid (Has wb47 (wa46).heap.size #[.string ⟨#[]⟩, .slice none 0 0]) := Lib.hid (by rw [hw47]; exact Has.new _ _ _)
              have KA47 := Lib.hid (next0 KA46.out J47.out)
              have hz47 : (wa46).heap.size + 1 ≤ wb47.heap.size := by rw [hw47]; simp
              clear hw47
              have HA10_47 := Lib.hid (HA10_46.out.step0 J47.out)
              have SA9_47 := Lib.hid (SA9_46.out.frame (w' := wb47) fun b o hb => (J47.out).cell (p := ⟨b, o, none⟩) (okq (a := w6.heap.size) (lo := lo45) (hi := hi45) (show w6.heap.size ≤ (wa46).heap.size from KA46.out.size) (show hi45 ≤ (wa46).heap.size by omega) b hb))
              have SA10_47 := Lib.hid (SN46.out.frame (w' := wb47) fun b o hb => (J47.out).cell (p := ⟨b, o, none⟩) (okq (a := w6.heap.size) (lo := lo46) (hi := hi46) (show w6.heap.size ≤ (wa46).heap.size from KA46.out.size) (show hi46 ≤ (wa46).heap.size by omega) b hb))
              refine hK.out _ _ (Hb.out _ KA47.out) (fun hHeld => ?_)
              clear hK K
              (try simp only [List.getElem_toArray, List.getElem_cons_zero, List.getElem_cons_succ, Act.put, List.setIfInBounds_toArray, List.set_cons_zero, List.set_cons_succ])
              refine wpAnyH_ready (rs := [8]) (by kernel_rfl) (by simp) ?_
              refine AllReadyH.cons rfl (fun K hK => ?_) AllReadyH.nil
              obtain ⟨f1, f2, f3, f4, f5⟩ := HN47.out.two
              go_simp
              (try go_split_ands)
              obtain ⟨ws48, hw48⟩ : ∃ z, z = ((wb47).setCell ⟨(wa46).heap.size, 0, none⟩ (.string xn)).setCell ⟨(wa46).heap.size, 1, none⟩ (.slice q45 xl d45) := ⟨_, rfl⟩
              rw [← hw48]
              have hgw48 : w6.heap.size ≤ (wa46).heap.size := by omega
              have hne48 : (w0).heap.size ≠ (wa46).heap.size := by omega
              have KA48 : Hid (Below w6.heap.size w6 ws48) := Lib.hid (by rw [hw48]; exact (KA47.out.setCell hgw48 _).setCell hgw48 _)
              have HN48 : Hid (Has ws48 (wa46).heap.size #[.string xn, .slice q45 xl d45]) := Lib.hid (by rw [hw48]; exact put_agg HN47.out _ _)
              have HO48 := Lib.hid (show Has ws48 (w0).heap.size _ by rw [hw48]; exact far_agg hne48 HA10_47.out _ _)
              have hz48 : (wb47).heap.size ≤ ws48.heap.size := by rw [hw48]; simp [World.setCell]
              have SA9_48 := Lib.hid (show SlIn _ ws48 x.args (.slice q45 xl d45) by rw [hw48]; exact slin_far2 SA9_47.out (okn (a := w6.heap.size) (lo := lo45) (hi := hi45) hgw48 (by omega)) _ _)
              have SA10_48 := Lib.hid (show SlIn _ ws48 x.args (.slice q46 xl d46) by rw [hw48]; exact slin_far2 SA10_47.out (okn (a := w6.heap.size) (lo := lo46) (hi := hi46) hgw48 (by omega)) _ _)
              clear hw48 f1 f2 f3 f4 f5
              refine hK.out _ _ (Hb.out _ KA48.out) (fun hHeld => ?_)
              clear hK K
              (try simp only [List.getElem_toArray, List.getElem_cons_zero, List.getElem_cons_succ, Act.put, List.setIfInBounds_toArray, List.set_cons_zero, List.set_cons_succ])
              refine wpAnyH_ready (rs := [9]) (by kernel_rfl) (by simp) ?_
              refine AllReadyH.cons rfl (fun K hK => ?_) AllReadyH.nil
              obtain ⟨f1, f2, f3, f4, f5⟩ := HO48.out.two
              go_simp
              (try go_split_ands)
              obtain ⟨ws49, hw49⟩ : ∃ z, z = ((ws48).setCell ⟨(w0).heap.size, 0, none⟩ (.string xn)).setCell ⟨(w0).heap.size, 1, none⟩ (.slice q46 xl d46) := ⟨_, rfl⟩
              rw [← hw49]
              have hgw49 : w6.heap.size ≤ (w0).heap.size := by omega
              have hne49 : (wa46).heap.size ≠ (w0).heap.size := by omega
              have KA49 : Hid (Below w6.heap.size w6 ws49) := Lib.hid (by rw [hw49]; exact (KA48.out.setCell hgw49 _).setCell hgw49 _)
              have HN49 : Hid (Has ws49 (w0).heap.size #[.string xn, .slice q46 xl d46]) := Lib.hid (by rw [hw49]; exact put_agg HO48.out _ _)
              have HO49 := Lib.hid (show Has ws49 (wa46).heap.size _ by rw [hw49]; exact far_agg hne49 HN48.out _ _)
              have hz49 : (ws48).heap.size ≤ ws49.heap.size := by rw [hw49]; simp [World.setCell]
              have SA9_49 := Lib.hid (show SlIn _ ws49 x.args (.slice q45 xl d45) by rw [hw49]; exact slin_far2 SA9_48.out (okn (a := w6.heap.size) (lo := lo45) (hi := hi45) hgw49 (by omega)) _ _)
              have SA10_49 := Lib.hid (show SlIn _ ws49 x.args (.slice q46 xl d46) by rw [hw49]; exact slin_far2 SA10_48.out (okn (a := w6.heap.size) (lo := lo46) (hi := hi46) hgw49 (by omega)) _ _)
              clear hw49 f1 f2 f3 f4 f5
              refine hK.out _ _ (Hb.out _ KA49.out) (fun hHeld => ?_)
              clear hK K
              (try simp only [List.getElem_toArray, List.getElem_cons_zero, List.getElem_cons_succ, Act.put, List.setIfInBounds_toArray, List.set_cons_zero, List.set_cons_succ])
              have FIN9 := Lib.hid (SA9_49.out.weaken (ok' := (· < ws49.heap.size)) (okq (a := w6.heap.size) (lo := lo45) (hi := hi45) KA49.out.size (show hi45 ≤ ws49.heap.size by omega)))
              have FIN10 := Lib.hid (SA10_49.out.weaken (ok' := (· < ws49.heap.size)) (okq (a := w6.heap.size) (lo := lo46) (hi := hi46) KA49.out.size (show hi46 ≤ ws49.heap.size by omega)))
              refine wpAnyH_done (by kernel_rfl) ?_ _
              go_wp2_with fail
              go_meet
              exact ⟨(wa46).heap.size, (w0).heap.size, q45, q46, d45, d46, rfl, rfl, HO49, HN49, FIN9, FIN10, KA49⟩
            · skip
              go_simp
              (try go_split_ands)
              obtain ⟨wb50, hw50⟩ : ∃ z, z = (wa45).alloc (.cells #[.string ⟨#[]⟩, .slice none 0 0] 27) := ⟨_, rfl⟩
              rw [← hw50]
              have J50 : Hid (Below (wa45).heap.size (wa45) wb50) := Lib.hid (by rw [hw50]; exact below_alloc _ _)
              have HN50 : Hid (Has wb50 (wa45).heap.size #[.string ⟨#[]⟩, .slice none 0 0]) := Lib.hid (by rw [hw50]; exact Has.new _ _ _)
              have KA50 := Lib.hid (next0 KA45.out J50.out)
              have hz50 : (wa45).heap.size + 1 ≤ wb50.heap.size := by rw [hw50]; simp
              clear hw50
              have HA10_50 := Lib.hid (HA10_45.out.step0 J50.out)
              have SA9_50 := Lib.hid (SN45.out.frame (w' := wb50) fun b o hb => (J50.out).cell (p := ⟨b, o, none⟩) (okq (a := w6.heap.size) (lo := lo45) (hi := hi45) (show w6.heap.size ≤ (wa45).heap.size from KA45.out.size) (show hi45 ≤ (wa45).heap.size by omega) b hb))
              refine hK.out _ _ (Hb.out _ KA50.out) (fun hHeld => ?_)
              clear hK K
              (try simp only [List.getElem_toArray, List.getElem_cons_zero, List.getElem_cons_succ, Act.put, List.setIfInBounds_toArray, List.set_cons_zero, List.set_cons_succ])
              refine wpAnyH_ready (rs := [5]) (by kernel_rfl) (by simp) ?_
              refine AllReadyH.cons rfl (fun K hK => ?_) AllReadyH.nil
              go_simp
              (try go_split_ands)
              go_at_call 21
              (with_reducible refine (B6.out _ KA50.out).mono ?_)
              rintro e wa51 ⟨q51, d51, lo51, rfl, hlo51, s51, n51, k51⟩
              have KA51 := Lib.hid (next0 KA50.out k51)
              have hz51 : (wb50).heap.size ≤ wa51.heap.size := k51.size
              have hl51 : lo51 = (wb50).heap.size := hlo51
              obtain ⟨hi51, hh51⟩ : ∃ m, m = wa51.heap.size := ⟨_, rfl⟩
              rw [← hh51] at s51
              have SN51 := Lib.hid s51
              have KJ51 := Lib.hid k51
              clear hlo51 s51 n51 k51
              have HA10_51 := Lib.hid (HA10_50.out.step0 KJ51.out)
              have HA9_51 := Lib.hid (HN50.out.step0 KJ51.out)
              have SA9_51 := Lib.hid (SA9_50.out.frame (w' := wa51) fun b o hb => (KJ51.out).cell (p := ⟨b, o, none⟩) (okq (a := w6.heap.size) (lo := lo45) (hi := hi45) (show w6.heap.size ≤ (wb50).heap.size from KA50.out.size) (show hi45 ≤ (wb50).heap.size by omega) b hb))
              refine hK.out _ _ (Hb.out _ KA51.out) (fun hHeld => ?_)
              clear hK K
              (try simp only [List.getElem_toArray, List.getElem_cons_zero, List.getElem_cons_succ, Act.put, List.setIfInBounds_toArray, List.set_cons_zero, List.set_cons_succ])
              refine wpAnyH_ready (rs := [8]) (by kernel_rfl) (by simp) ?_
              refine AllReadyH.cons rfl (fun K hK => ?_) AllReadyH.nil
              obtain ⟨f1, f2, f3, f4, f5⟩ := HA9_51.out.two
              go_simp
              (try go_split_ands)
              obtain ⟨ws52, hw52⟩ : ∃ z, z = ((wa51).setCell ⟨(wa45).heap.size, 0, none⟩ (.string xn)).setCell ⟨(wa45).heap.size, 1, none⟩ (.slice q45 xl d45) := ⟨_, rfl⟩
              rw [← hw52]
              have hgw52 : w6.heap.size ≤ (wa45).heap.size := by omega
              have hne52 : (w0).heap.size ≠ (wa45).heap.size := by omega
              have KA52 : Hid (Below w6.heap.size w6 ws52) := Lib.hid (by rw [hw52]; exact (KA51.out.setCell hgw52 _).setCell hgw52 _)
              have HN52 : Hid (Has ws52 (wa45).heap.size #[.string xn, .slice q45 xl d45]) := Lib.hid (by rw [hw52]; exact put_agg HA9_51.out _ _)
              have HO52 := Lib.hid (show Has ws52 (w0).heap.size _ by rw [hw52]; exact far_agg hne52 HA10_51.out _ _)
              have hz52 : (wa51).heap.size ≤ ws52.heap.size := by rw [hw52]; simp [World.setCell]
              have SA9_52 := Lib.hid (show SlIn _ ws52 x.args (.slice q45 xl d45) by rw [hw52]; exact slin_far2 SA9_51.out (okn (a := w6.heap.size) (lo := lo45) (hi := hi45) hgw52 (by omega)) _ _)
              have SA10_52 := Lib.hid (show SlIn _ ws52 x.args (.slice q51 xl d51) by rw [hw52]; exact slin_far2 SN51.out (okn (a := w6.heap.size) (lo := lo51) (hi := hi51) hgw52 (by omega)) _ _)
              clear hw52 f1 f2 f3 f4 f5
              refine hK.out _ _ (Hb.out _ KA52.out) (fun hHeld => ?_)
              clear hK K
              (try simp only [List.getElem_toArray, List.getElem_cons_zero, List.getElem_cons_succ, Act.put, List.setIfInBounds_toArray, List.set_cons_zero, List.set_cons_succ])
              refine wpAnyH_ready (rs := [9]) (by kernel_rfl) (by simp) ?_
              refine AllReadyH.cons rfl (fun K hK => ?_) AllReadyH.nil
              obtain ⟨f1, f2, f3, f4, f5⟩ := HO52.out.two
              go_simp
              (try go_split_ands)
              obtain ⟨ws53, hw53⟩ : ∃ z, z = ((ws52).setCell ⟨(w0).heap.size, 0, none⟩ (.string xn)).setCell ⟨(w0).heap.size, 1, none⟩ (.slice q51 xl d51) := ⟨_, rfl⟩
              rw [← hw53]
              have hgw53 : w6.heap.size ≤ (w0).heap.size := by omega
              have hne53 : (wa45).heap.size ≠ (w0).heap.size := by omega
              have KA53 : Hid (Below w6.heap.size w6 ws53) := Lib.hid (by rw [hw53]; exact (KA52.out.setCell hgw53 _).setCell hgw53 _)
              have HN53 : Hid (Has ws53 (w0).heap.size #[.string xn, .slice q51 xl d51]) := Lib.hid (by rw [hw53]; exact put_agg HO52.out _ _)
              have HO53 := Lib.hid (show Has ws53 (wa45).heap.size _ by rw [hw53]; exact far_agg hne53 HN52.out _ _)
              have hz53 : (ws52).heap.size ≤ ws53.heap.size := by rw [hw53]; simp [World.setCell]
              have SA9_53 := Lib.hid (show SlIn _ ws53 x.args (.slice q45 xl d45) by rw [hw53]; exact slin_far2 SA9_52.out (okn (a := w6.heap.size) (lo := lo45) (hi := hi45) hgw53 (by omega)) _ _)
              have SA10_53 := Lib.hid (show SlIn _ ws53 x.args (.slice q51 xl d51) by rw [hw53]; exact slin_far2 SA10_52.out (okn (a := w6.heap.size) (lo := lo51) (hi := hi51) hgw53 (by omega)) _ _)
              clear hw53 f1 f2 f3 f4 f5
              refine hK.out _ _ (Hb.out _ KA53.out) (fun hHeld => ?_)
              clear hK K
              (try simp only [List.getElem_toArray, List.getElem_cons_zero, List.getElem_cons_succ, Act.put, List.setIfInBounds_toArray, List.set_cons_zero, List.set_cons_succ])
              have FIN9 := Lib.hid (SA9_53.out.weaken (ok' := (· < ws53.heap.size)) (okq (a := w6.heap.size) (lo := lo45) (hi := hi45) KA53.out.size (show hi45 ≤ ws53.heap.size by omega)))
              have FIN10 := Lib.hid (SA10_53.out.weaken (ok' := (· < ws53.heap.size)) (okq (a := w6.heap.size) (lo := lo51) (hi := hi51) KA53.out.size (show hi51 ≤ ws53.heap.size by omega)))
              refine wpAnyH_done (by kernel_rfl) ?_ _
              go_wp2_with fail
              go_meet
              exact ⟨(wa45).heap.size, (w0).heap.size, q45, q51, d45, d51, rfl, rfl, HO53, HN53, FIN9, FIN10, KA53⟩
          · skip
            go_simp
            (try go_split_ands)
            obtain ⟨wb54, hw54⟩ : ∃ z, z = (wb44).alloc (.cells #[.string ⟨#[]⟩, .slice none 0 0] 27) := ⟨_, rfl⟩
            rw [← hw54]
            have J54 : Hid (Below (wb44).heap.size (wb44) wb54) := Lib.hid (by rw [hw54]; exact below_alloc _ _)
            have HN54 : Hid (Has wb54 (wb44).heap.size #[.string ⟨#[]⟩, .slice none 0 0]) := Lib.hid (by rw [hw54]; exact Has.new _ _ _)
            have KA54 := Lib.hid (next0 KA44.out J54.out)
            have hz54 : (wb44).heap.size + 1 ≤ wb54.heap.size := by rw [hw54]; simp
            clear hw54
            have HA10_54 := Lib.hid (HN44.out.step0 J54.out)
            refine hK.out _ _ (Hb.out _ KA54.out) (fun hHeld => ?_)
            clear hK K
            (try simp only [List.getElem_toArray, List.getElem_cons_zero, List.getElem_cons_succ, Act.put, List.setIfInBounds_toArray, List.set_cons_zero, List.set_cons_succ])
            refine wpAnyH_ready (rs := [2]) (by kernel_rfl) (by simp) ?_
            refine AllReadyH.cons rfl (fun K hK => ?_) AllReadyH.nil
            go_simp
            (try go_split_ands)
            go_at_call 21
            (with_reducible refine (A6.out _ KA54.out).mono ?_)
            rintro e wa55 ⟨q55, d55, lo55, rfl, hlo55, s55, n55, k55⟩
            have KA55 := Lib.hid (next0 KA54.out k55)
            have hz55 : (wb54).heap.size ≤ wa55.heap.size := k55.size
            have hl55 : lo55 = (wb54).heap.size := hlo55
            obtain ⟨hi55, hh55⟩ : ∃ m, m = wa55.heap.size := ⟨_, rfl⟩
            rw [← hh55] at s55
            have SN55 := Lib.hid s55
            have KJ55 := Lib.hid k55
            clear hlo55 s55 n55 k55
            have HA10_55 := Lib.hid (HA10_54.out.step0 KJ55.out)
            have HA9_55 := Lib.hid (HN54.out.step0 KJ55.out)
            refine hK.out _ _ (Hb.out _ KA55.out) (fun hHeld => ?_)
            clear hK K
            (try simp only [List.getElem_toArray, List.getElem_cons_zero, List.getElem_cons_succ, Act.put, List.setIfInBounds_toArray, List.set_cons_zero, List.set_cons_succ])
            refine wpAnyH_ready (rs := [5]) (by kernel_rfl) (by simp) ?_
            refine AllReadyH.cons rfl (fun K hK => ?_) AllReadyH.nil
            go_simp
            (try go_split_ands)
            go_at_call 21
            (with_reducible refine (B6.out _ KA55.out).mono ?_)
            rintro e wa56 ⟨q56, d56, lo56, rfl, hlo56, s56, n56, k56⟩
            have KA56 := Lib.hid (next0 KA55.out k56)
            have hz56 : (wa55).heap.size ≤ wa56.heap.size := k56.size
            have hl56 : lo56 = (wa55).heap.size := hlo56
            obtain ⟨hi56, hh56⟩ : ∃ m, m = wa56.heap.size := ⟨_, rfl⟩
            rw [← hh56] at s56
            have SN56 := Lib.hid s56
            have KJ56 := Lib.hid k56
            clear hlo56 s56 n56 k56
            have HA10_56 := Lib.hid (HA10_55.out.step0 KJ56.out)
            have HA9_56 := Lib.hid (HA9_55.out.step0 KJ56.out)
            have SA9_56 := Lib.hid (SN55.out.frame (w' := wa56) fun b o hb => (KJ56.out).cell (p := ⟨b, o, none⟩) (okq (a := w6.heap.size) (lo := lo55) (hi := hi55) (show w6.heap.size ≤ (wa55).heap.size from KA55.out.size) (show hi55 ≤ (wa55).heap.size by omega) b hb))
            refine hK.out _ _ (Hb.out _ KA56.out) (fun hHeld => ?_)
            clear hK K
            (try simp only [List.getElem_toArray, List.getElem_cons_zero, List.getElem_cons_succ, Act.put, List.setIfInBounds_toArray, List.set_cons_zero, List.set_cons_succ])
            refine wpAnyH_ready (rs := [8]) (by kernel_rfl) (by simp) ?_
            refine AllReadyH.cons rfl (fun K hK => ?_) AllReadyH.nil
            obtain ⟨f1, f2, f3, f4, f5⟩ := HA9_56.out.two
            go_simp
            (try go_split_ands)
            obtain ⟨ws57, hw57⟩ : ∃ z, z = ((wa56).setCell ⟨(wb44).heap.size, 0, none⟩ (.string xn)).setCell ⟨(wb44).heap.size, 1, none⟩ (.slice q55 xl d55) := ⟨_, rfl⟩
            rw [← hw57]
            have hgw57 : w6.heap.size ≤ (wb44).heap.size := by omega
            have hne57 : (w0).heap.size ≠ (wb44).heap.size := by omega
            have KA57 : Hid (Below w6.heap.size w6 ws57) := Lib.hid (by rw [hw57]; exact (KA56.out.setCell hgw57 _).setCell hgw57 _)
            have HN57 : Hid (Has ws57 (wb44).heap.size #[.string xn, .slice q55 xl d55]) := Lib.hid (by rw [hw57]; exact put_agg HA9_56.out _ _)
            have HO57 := Lib.hid (show Has ws57 (w0).heap.size _ by rw [hw57]; exact far_agg hne57 HA10_56.out _ _)
            have hz57 : (wa56).heap.size ≤ ws57.heap.size := by rw [hw57]; simp [World.setCell]
            have SA9_57 := Lib.hid (show SlIn _ ws57 x.args (.slice q55 xl d55) by rw [hw57]; exact slin_far2 SA9_56.out (okn (a := w6.heap.size) (lo := lo55) (hi := hi55) hgw57 (by omega)) _ _)
            have SA10_57 := Lib.hid (show SlIn _ ws57 x.args (.slice q56 xl d56) by rw [hw57]; exact slin_far2 SN56.out (okn (a := w6.heap.size) (lo := lo56) (hi := hi56) hgw57 (by omega)) _ _)
            clear hw57 f1 f2 f3 f4 f5
            refine hK.out _ _ (Hb.out _ KA57.out) (fun hHeld => ?_)
            clear hK K
            (try simp only [List.getElem_toArray, List.getElem_cons_zero, List.getElem_cons_succ, Act.put, List.setIfInBounds_toArray, List.set_cons_zero, List.set_cons_succ])
            refine wpAnyH_ready (rs := [9]) (by kernel_rfl) (by simp) ?_
            refine AllReadyH.cons rfl (fun K hK => ?_) AllReadyH.nil
            obtain ⟨f1, f2, f3, f4, f5⟩ := HO57.out.two
            go_simp
            (try go_split_ands)
            obtain ⟨ws58, hw58⟩ : ∃ z, z = ((ws57).setCell ⟨(w0).heap.size, 0, none⟩ (.string xn)).setCell ⟨(w0).heap.size, 1, none⟩ (.slice q56 xl d56) := ⟨_, rfl⟩
            rw [← hw58]
            have hgw58 : w6.heap.size ≤ (w0).heap.size := by omega
            have hne58 : (wb44).heap.size ≠ (w0).heap.size := by omega
            have KA58 : Hid (Below w6.heap.size w6 ws58) := Lib.hid (by rw [hw58]; exact (KA57.out.setCell hgw58 _).setCell hgw58 _)
            have HN58 : Hid (Has ws58 (w0).heap.size #[.string xn, .slice q56 xl d56]) := Lib.hid (by rw [hw58]; exact put_agg HO57.out _ _)
            have HO58 := Lib.hid (show Has ws58 (wb44).heap.size _ by rw [hw58]; exact far_agg hne58 HN57.out _ _)
            have hz58 : (ws57).heap.size ≤ ws58.heap.size := by rw [hw58]; simp [World.setCell]
            have SA9_58 := Lib.hid (show SlIn _ ws58 x.args (.slice q55 xl d55) by rw [hw58]; exact slin_far2 SA9_57.out (okn (a := w6.heap.size) (lo := lo55) (hi := hi55) hgw58 (by omega)) _ _)
            have SA10_58 := Lib.hid (show SlIn _ ws58 x.args (.slice q56 xl d56) by rw [hw58]; exact slin_far2 SA10_57.out (okn (a := w6.heap.size) (lo := lo56) (hi := hi56) hgw58 (by omega)) _ _)
            clear hw58 f1 f2 f3 f4 f5
            refine hK.out _ _ (Hb.out _ KA58.out) (fun hHeld => ?_)
            clear hK K
            (try simp only [List.getElem_toArray, List.getElem_cons_zero, List.getElem_cons_succ, Act.put, List.setIfInBounds_toArray, List.set_cons_zero, List.set_cons_succ])
            have FIN9 := Lib.hid (SA9_58.out.weaken (ok' := (· < ws58.heap.size)) (okq (a := w6.heap.size) (lo := lo55) (hi := hi55) KA58.out.size (show hi55 ≤ ws58.heap.size by omega)))
            have FIN10 := Lib.hid (SA10_58.out.weaken (ok' := (· < ws58.heap.size)) (okq (a := w6.heap.size) (lo := lo56) (hi := hi56) KA58.out.size (show hi56 ≤ ws58.heap.size by omega)))
            refine wpAnyH_done (by kernel_rfl) ?_ _
            go_wp2_with fail
            go_meet
            exact ⟨(wb44).heap.size, (w0).heap.size, q55, q56, d55, d56, rfl, rfl, HO58, HN58, FIN9, FIN10, KA58⟩
      case rest =>
        obtain ⟨g9, g10, q9, q10, d9, d10, rfl, rfl, H9, H10, S9, S10, K7⟩ := hcut
        clear A6 B6 y1 y2 y3 y4 y5 z1 z2 z3 z4 z5
        have HH9 := Lib.hid (fun w' (k : Below wc.heap.size wc w') => And.intro (H9.out.step0 k).two (H10.out.step0 k).two)
        have SX9 := Lib.hid (fun w' (k : Below wc.heap.size wc w') => (S9.out.deep k (Nat.le_refl _)).weaken (ok' := (· < w'.heap.size)) fun b hb => Nat.lt_of_lt_of_le hb k.size)
        have SX10 := Lib.hid (fun w' (k : Below wc.heap.size wc w') => (S10.out.deep k (Nat.le_refl _)).weaken (ok' := (· < w'.heap.size)) fun b hb => Nat.lt_of_lt_of_le hb k.size)
        have AX := Lib.hid (fun w' (k : Below wc.heap.size wc w') => AXX.out w' (next0 K7.out k) _ (SX9.out w' k))
        have CTx := Lib.hid (fun q q' w' h h' => CT.out x q q' w' h h')
        unfold RApR at AX
        rw [HXN.out, HXL.out] at AX
        rw [HXN.out] at CTx
        clear CT AXX H9 H10 S9 S10
        obtain ⟨⟨y1, y2, y3, y4, y5⟩, z1, z2, z3, z4, z5⟩ := HH9.out wc (Below.refl _ _)
        go_wp2_with fail
        go_region_law (first
          | (go_simp; go_at_call 18; (with_reducible refine (CTx.out _ _ _ (by first | exact SX9.out _ (by first | exact Below.refl _ _ | exact (Below.refl _ _).drew | exact below_drewN (Below.refl _ _) _) | exact (SX9.out _ (Below.refl _ _)).frame fun _ _ _ => rfl) (by first | exact SX10.out _ (by first | exact Below.refl _ _ | exact (Below.refl _ _).drew | exact below_drewN (Below.refl _ _) _) | exact (SX10.out _ (Below.refl _ _)).frame fun _ _ _ => rfl)).mono ?_); rintro e wd ⟨rfl, gd⟩; have Kd : Hid (Below wc.heap.size wc wd) := Lib.hid (by first | exact next0 (Below.refl _ _) gd.1 | exact next0 (Below.refl _ _).drew gd.1 | exact next0 (below_drewN (Below.refl _ _) _) gd.1); clear gd y1 y2 y3 y4 y5 z1 z2 z3 z4 z5; obtain ⟨⟨y1, y2, y3, y4, y5⟩, z1, z2, z3, z4, z5⟩ := HH9.out wd Kd.out)
          | (go_simp; go_at_call 21; (with_reducible refine (AX.out _ (by first | exact Kd.out | exact Kd.out.drew | exact below_drewN Kd.out _)).mono ?_); rintro e we ⟨qe, de, rfl, se, ne, ke⟩; have Ke : Hid (Below wc.heap.size wc we) := Lib.hid (by first | exact next0 Kd.out ke | exact next0 Kd.out.drew ke | exact next0 (below_drewN Kd.out _) ke); have Se := Lib.hid (se.weaken (ok' := (· < we.heap.size)) fun b hb => by have h1 := ke.size; have h2 := hb; first | omega | (rcases h2 with h2 | h2; exact Nat.lt_of_lt_of_le h2 h1; exact h2.2)); clear se ne ke y1 y2 y3 y4 y5 z1 z2 z3 z4 z5; obtain ⟨⟨y1, y2, y3, y4, y5⟩, z1, z2, z3, z4, z5⟩ := HH9.out we Ke.out)
          | (go_simp; go_at_call 18; (with_reducible refine (CTx.out _ _ _ (by first | exact Se.out | exact Se.out.frame fun _ _ _ => rfl) (by first | exact SX9.out _ Ke.out | exact (SX9.out _ Ke.out).frame fun _ _ _ => rfl)).mono ?_); rintro e wf ⟨rfl, gf⟩; have Kf : Hid (Below wc.heap.size wc wf) := Lib.hid (by first | exact next0 Ke.out gf.1 | exact next0 Ke.out.drew gf.1 | exact next0 (below_drewN Ke.out _) gf.1); clear gf))
        all_goals
          go_wp2_with fail
          go_meet
          exact Lib.hid (next0 K7.out Kf.out)
  case rest =>
    have K8 := Lib.hid hcut.out
    have D8 := Lib.hid (next0 D6.out K8.out)
    have VT8 := Lib.hid (fun w' (k : Below wc.heap.size wc w') => VT.out w' (next0 D8.out k))
    have VA8 := Lib.hid (fun w' (k : Below wc.heap.size wc w') => VA.out w' (next0 D8.out k))
    have VB8 := Lib.hid (fun w' (k : Below wc.heap.size wc w') => VB.out w' (next0 D8.out k))
    have AW8 := Lib.hid (fun w' (k : Below wc.heap.size wc w') => AW'.out w' (next0 D8.out k))
    have HH8 := Lib.hid (fun w' (k : Below wc.heap.size wc w') => And.intro (HH6.out w' (next0 K8.out k)).1.two (HH6.out w' (next0 K8.out k)).2.two)
    have TA8 := Lib.hid (fun (hV : ∀ b ∈ t, varB b.1 = true) w' (k : Below wc.heap.size wc w') => AA.out t hV Z1.out w'.heap.size (next0 D8.out k).size w' (next0 D8.out k) (Nat.le_refl _) _ (ST.out w' (next0 D8.out k)))
    have TB8 := Lib.hid (fun (hV : ∀ b ∈ t, varB b.1 = true) w' (k : Below wc.heap.size wc w') => AB.out t hV Z2.out w'.heap.size (next0 D8.out k).size w' (next0 D8.out k) (Nat.le_refl _) _ (ST.out w' (next0 D8.out k)))
    have ST8 := Lib.hid (fun w' (k : Below wc.heap.size wc w') => ST.out w' (next0 D8.out k))
    have SS8 := Lib.hid (fun w' (k : Below wc.heap.size wc w') => SS.out w' (next0 K8.out k))
    have RT8 := Lib.hid (fun w' (k : Below wc.heap.size wc w') => RT.out w' (next0 D8.out k))
    have RS8 := Lib.hid (fun w' (k : Below wc.heap.size wc w') => RS.out w' (next0 K8.out k))
    clear VT VA VB AW' HH6 AA AB ST SS RT RS SB hcut y1 y2 y3 y4 y5 z1 z2 z3 z4 z5
    obtain ⟨⟨y1, y2, y3, y4, y5⟩, z1, z2, z3, z4, z5⟩ := HH8.out wc (Below.refl _ _)
    cases vt
    case false =>
      clear VA8 VB8 TA8 TB8 CT CT2 SP
      have Hb : Hid (∀ w', Below wc.heap.size wc w' → w'.cell? ⟨w.heap.size, 0, none⟩ = some (.string an) ∧ w'.cell? ⟨w.heap.size, 1, none⟩ = some (.slice p1 al c1) ∧ w'.cell? ⟨w.heap.size + 1, 0, none⟩ = some (.string bn) ∧ w'.cell? ⟨w.heap.size + 1, 1, none⟩ = some (.slice p2 bl c2) ∧ Hid (Below wc.heap.size wc w')) := Lib.hid (fun w' g => ⟨(HH8.out w' g).1.1, (HH8.out w' g).1.2.1, (HH8.out w' g).2.1, (HH8.out w' g).2.2.1, Lib.hid g⟩)
      have hs0 := Hb.out _ (Below.refl wc.heap.size wc).drew
      clear y1 y2 y3 y4 y5 z1 z2 z3 z4 z5
      go_wp2_with fail
      refine wp_region_held_drew (S := (fun w' => w'.cell? ⟨w.heap.size, 0, none⟩ = some (.string an) ∧ w'.cell? ⟨w.heap.size, 1, none⟩ = some (.slice p1 al c1) ∧ w'.cell? ⟨w.heap.size + 1, 0, none⟩ = some (.string bn) ∧ w'.cell? ⟨w.heap.size + 1, 1, none⟩ = some (.slice p2 bl c2) ∧ Hid (Below wc.heap.size wc w'))) (by kernel_rfl) hs0 (fun hHeld => ?_)
      refine wpAnyH_take (i := 0) (v := ?_) rfl (by kernel_rfl) (by kernel_rfl) (by kernel_rfl) (fun _ _ _ h => h) (Or.inl ⟨by rfl, ?_⟩) (by assumption) ?_
      rotate_left
      · intro w' hSw; (try dsimp only at hSw); (try simp only [List.getElem_toArray, List.getElem_cons_zero]); go_simp; try with_reducible rfl
      (try simp only [List.getElem_toArray, List.getElem_cons_zero, Act.put, List.setIfInBounds_toArray, List.set_cons_zero, List.set_cons_succ])
      refine wpAnyH_ready (rs := [1]) (by kernel_rfl) (by simp) ?_
      refine AllReadyH.cons rfl (fun K hK => ?_) AllReadyH.nil
      go_simp
      (try go_split_ands)
      go_at_call 14
      (try go_split_ands)
      (with_reducible refine (VT8.out _ (by repeat (first | (with_reducible exact Hid.out (by assumption)) | (with_reducible exact Below.refl _ _) | (with_reducible refine Below.drew ?_)))).mono ?_)
      rintro e w' ⟨rfl, q0⟩
      (have qg : Below wc.heap.size wc w' := by (refine next0 ?_ q0.1; repeat (first | (with_reducible exact Hid.out (by assumption)) | (with_reducible exact Below.refl _ _) | (with_reducible refine Below.drew ?_))))
      clear q0
      refine hK.out _ _ (Hb.out _ qg) (fun hHeld => ?_)
      clear hK K
      (try simp only [List.getElem_toArray, List.getElem_cons_zero, List.getElem_cons_succ, Act.put, List.setIfInBounds_toArray, List.set_cons_zero, List.set_cons_succ])
      refine wpAnyH_take (i := 2) (v := ?_) rfl (by kernel_rfl) (by kernel_rfl) (by kernel_rfl) (fun _ _ _ h => h) (Or.inl ⟨by rfl, ?_⟩) (by assumption) ?_
      rotate_left
      · intro w' hSw; (try dsimp only at hSw); (try simp only [List.getElem_toArray, List.getElem_cons_zero, List.getElem_cons_succ]); go_simp; try with_reducible rfl
      (try simp only [List.getElem_toArray, List.getElem_cons_zero, List.getElem_cons_succ, Act.put, List.setIfInBounds_toArray, List.set_cons_zero, List.set_cons_succ])
      refine wpAnyH_take (i := 3) (v := ?_) rfl (by kernel_rfl) (by kernel_rfl) (by kernel_rfl) (fun _ _ _ h => h) (Or.inl ⟨by rfl, ?_⟩) (by assumption) ?_
      rotate_left
      · intro w' hSw; (try dsimp only at hSw); (try simp only [List.getElem_toArray, List.getElem_cons_zero, List.getElem_cons_succ]); go_simp; try with_reducible rfl
      (try simp only [List.getElem_toArray, List.getElem_cons_zero, List.getElem_cons_succ, Act.put, List.setIfInBounds_toArray, List.set_cons_zero, List.set_cons_succ])
      first
        | (refine wpAnyH_take (i := 4) (v := undef) rfl (by kernel_rfl) (by kernel_rfl) (by kernel_rfl) (fun _ _ _ h => h) (Or.inr ⟨by rfl, rfl⟩) (by assumption) ?_)
        | (refine wpAnyH_ready (rs := [4]) (by kernel_rfl) (by simp) ?_; refine AllReadyH.cons rfl (fun K hK => ?_) AllReadyH.nil; rw [if_neg (by decide)]; refine hK.out _ _ (by assumption) (fun hHeld => ?_); clear hK K)
      (try simp only [List.getElem_toArray, List.getElem_cons_zero, List.getElem_cons_succ, Act.put, List.setIfInBounds_toArray, List.set_cons_zero, List.set_cons_succ])
      first
        | (refine wpAnyH_take (i := 5) (v := undef) rfl (by kernel_rfl) (by kernel_rfl) (by kernel_rfl) (fun _ _ _ h => h) (Or.inr ⟨by rfl, rfl⟩) (by assumption) ?_)
        | (refine wpAnyH_ready (rs := [5]) (by kernel_rfl) (by simp) ?_; refine AllReadyH.cons rfl (fun K hK => ?_) AllReadyH.nil; rw [if_neg (by decide)]; refine hK.out _ _ (by assumption) (fun hHeld => ?_); clear hK K)
      (try simp only [List.getElem_toArray, List.getElem_cons_zero, List.getElem_cons_succ, Act.put, List.setIfInBounds_toArray, List.set_cons_zero, List.set_cons_succ])
      refine wpAnyH_take (i := 6) (v := undef) rfl (by kernel_rfl) (by kernel_rfl) (by kernel_rfl) (fun _ _ _ h => h) (Or.inr ⟨by rfl, rfl⟩) (by assumption) ?_
      (try simp only [List.getElem_toArray, List.getElem_cons_zero, List.getElem_cons_succ, Act.put, List.setIfInBounds_toArray, List.set_cons_zero, List.set_cons_succ])
      refine wpAnyH_take (i := 7) (v := ?_) rfl (by kernel_rfl) (by kernel_rfl) (by kernel_rfl) (fun _ _ _ h => h) (Or.inl ⟨by rfl, ?_⟩) (by assumption) ?_
      rotate_left
      · intro w' hSw; (try dsimp only at hSw); (try simp only [List.getElem_toArray, List.getElem_cons_zero, List.getElem_cons_succ]); go_simp; try with_reducible rfl
      (try simp only [List.getElem_toArray, List.getElem_cons_zero, List.getElem_cons_succ, Act.put, List.setIfInBounds_toArray, List.set_cons_zero, List.set_cons_succ])
      refine wpAnyH_take (i := 8) (v := ?_) rfl (by kernel_rfl) (by kernel_rfl) (by kernel_rfl) (fun _ _ _ h => h) (Or.inl ⟨by rfl, ?_⟩) (by assumption) ?_
      rotate_left
      · intro w' hSw; (try dsimp only at hSw); (try simp only [List.getElem_toArray, List.getElem_cons_zero, List.getElem_cons_succ]); go_simp; try with_reducible rfl
      (try simp only [List.getElem_toArray, List.getElem_cons_zero, List.getElem_cons_succ, Act.put, List.setIfInBounds_toArray, List.set_cons_zero, List.set_cons_succ])
      first
        | (refine wpAnyH_take (i := 9) (v := undef) rfl (by kernel_rfl) (by kernel_rfl) (by kernel_rfl) (fun _ _ _ h => h) (Or.inr ⟨by rfl, rfl⟩) (by assumption) ?_)
        | (refine wpAnyH_ready (rs := [9]) (by kernel_rfl) (by simp) ?_; refine AllReadyH.cons rfl (fun K hK => ?_) AllReadyH.nil; rw [if_neg (by decide)]; refine hK.out _ _ (by assumption) (fun hHeld => ?_); clear hK K)
      (try simp only [List.getElem_toArray, List.getElem_cons_zero, List.getElem_cons_succ, Act.put, List.setIfInBounds_toArray, List.set_cons_zero, List.set_cons_succ])
      first
        | (refine wpAnyH_take (i := 10) (v := undef) rfl (by kernel_rfl) (by kernel_rfl) (by kernel_rfl) (fun _ _ _ h => h) (Or.inr ⟨by rfl, rfl⟩) (by assumption) ?_)
        | (refine wpAnyH_ready (rs := [10]) (by kernel_rfl) (by simp) ?_; refine AllReadyH.cons rfl (fun K hK => ?_) AllReadyH.nil; rw [if_neg (by decide)]; refine hK.out _ _ (by assumption) (fun hHeld => ?_); clear hK K)
      (try simp only [List.getElem_toArray, List.getElem_cons_zero, List.getElem_cons_succ, Act.put, List.setIfInBounds_toArray, List.set_cons_zero, List.set_cons_succ])
      refine wpAnyH_take (i := 11) (v := undef) rfl (by kernel_rfl) (by kernel_rfl) (by kernel_rfl) (fun _ _ _ h => h) (Or.inr ⟨by rfl, rfl⟩) (by assumption) ?_
      (try simp only [List.getElem_toArray, List.getElem_cons_zero, List.getElem_cons_succ, Act.put, List.setIfInBounds_toArray, List.set_cons_zero, List.set_cons_succ])
      refine wpAnyH_take (i := 12) (v := ?_) rfl (by kernel_rfl) (by kernel_rfl) (by kernel_rfl) (fun _ _ _ h => h) (Or.inl ⟨by rfl, ?_⟩) (by assumption) ?_
      rotate_left
      · intro w' hSw; (try dsimp only at hSw); (try simp only [List.getElem_toArray, List.getElem_cons_zero, List.getElem_cons_succ]); go_simp; try with_reducible rfl
      (try simp only [List.getElem_toArray, List.getElem_cons_zero, List.getElem_cons_succ, Act.put, List.setIfInBounds_toArray, List.set_cons_zero, List.set_cons_succ])
      refine wpAnyH_take (i := 13) (v := ?_) rfl (by kernel_rfl) (by kernel_rfl) (by kernel_rfl) (fun _ _ _ h => h) (Or.inl ⟨by rfl, ?_⟩) (by assumption) ?_
      rotate_left
      · intro w' hSw; (try dsimp only at hSw); (try simp only [List.getElem_toArray, List.getElem_cons_zero, List.getElem_cons_succ]); go_simp; try with_reducible rfl
      (try simp only [List.getElem_toArray, List.getElem_cons_zero, List.getElem_cons_succ, Act.put, List.setIfInBounds_toArray, List.set_cons_zero, List.set_cons_succ])
      refine wpAnyH_take (i := 14) (v := undef) rfl (by kernel_rfl) (by kernel_rfl) (by kernel_rfl) (fun _ _ _ h => h) (Or.inr ⟨by rfl, rfl⟩) (by assumption) ?_
      (try simp only [List.getElem_toArray, List.getElem_cons_zero, List.getElem_cons_succ, Act.put, List.setIfInBounds_toArray, List.set_cons_zero, List.set_cons_succ])
      first
        | (refine wpAnyH_take (i := 15) (v := undef) rfl (by kernel_rfl) (by kernel_rfl) (by kernel_rfl) (fun _ _ _ h => h) (Or.inr ⟨by rfl, rfl⟩) (by assumption) ?_)
        | (refine wpAnyH_ready (rs := [15]) (by kernel_rfl) (by simp) ?_; refine AllReadyH.cons rfl (fun K hK => ?_) AllReadyH.nil; rw [if_neg (by decide)]; refine hK.out _ _ (by assumption) (fun hHeld => ?_); clear hK K)
      (try simp only [List.getElem_toArray, List.getElem_cons_zero, List.getElem_cons_succ, Act.put, List.setIfInBounds_toArray, List.set_cons_zero, List.set_cons_succ])
      first
        | (refine wpAnyH_take (i := 16) (v := undef) rfl (by kernel_rfl) (by kernel_rfl) (by kernel_rfl) (fun _ _ _ h => h) (Or.inr ⟨by rfl, rfl⟩) (by assumption) ?_)
        | (refine wpAnyH_ready (rs := [16]) (by kernel_rfl) (by simp) ?_; refine AllReadyH.cons rfl (fun K hK => ?_) AllReadyH.nil; rw [if_neg (by decide)]; refine hK.out _ _ (by assumption) (fun hHeld => ?_); clear hK K)
      (try simp only [List.getElem_toArray, List.getElem_cons_zero, List.getElem_cons_succ, Act.put, List.setIfInBounds_toArray, List.set_cons_zero, List.set_cons_succ])
      refine wpAnyH_take (i := 17) (v := undef) rfl (by kernel_rfl) (by kernel_rfl) (by kernel_rfl) (fun _ _ _ h => h) (Or.inr ⟨by rfl, rfl⟩) (by assumption) ?_
      (try simp only [List.getElem_toArray, List.getElem_cons_zero, List.getElem_cons_succ, Act.put, List.setIfInBounds_toArray, List.set_cons_zero, List.set_cons_succ])
      first
        | (refine wpAnyH_take (i := 18) (v := undef) rfl (by kernel_rfl) (by kernel_rfl) (by kernel_rfl) (fun _ _ _ h => h) (Or.inr ⟨by rfl, rfl⟩) (by assumption) ?_)
        | (refine wpAnyH_ready (rs := [18]) (by kernel_rfl) (by simp) ?_; refine AllReadyH.cons rfl (fun K hK => ?_) AllReadyH.nil; rw [if_neg (by decide)]; refine hK.out _ _ (by assumption) (fun hHeld => ?_); clear hK K)
      (try simp only [List.getElem_toArray, List.getElem_cons_zero, List.getElem_cons_succ, Act.put, List.setIfInBounds_toArray, List.set_cons_zero, List.set_cons_succ])
      first
        | (refine wpAnyH_take (i := 19) (v := undef) rfl (by kernel_rfl) (by kernel_rfl) (by kernel_rfl) (fun _ _ _ h => h) (Or.inr ⟨by rfl, rfl⟩) (by assumption) ?_)
        | (refine wpAnyH_ready (rs := [19]) (by kernel_rfl) (by simp) ?_; refine AllReadyH.cons rfl (fun K hK => ?_) AllReadyH.nil; rw [if_neg (by decide)]; refine hK.out _ _ (by assumption) (fun hHeld => ?_); clear hK K)
      (try simp only [List.getElem_toArray, List.getElem_cons_zero, List.getElem_cons_succ, Act.put, List.setIfInBounds_toArray, List.set_cons_zero, List.set_cons_succ])
      first
        | (refine wpAnyH_take (i := 20) (v := undef) rfl (by kernel_rfl) (by kernel_rfl) (by kernel_rfl) (fun _ _ _ h => h) (Or.inr ⟨by rfl, rfl⟩) (by assumption) ?_)
        | (refine wpAnyH_ready (rs := [20]) (by kernel_rfl) (by simp) ?_; refine AllReadyH.cons rfl (fun K hK => ?_) AllReadyH.nil; rw [if_neg (by decide)]; refine hK.out _ _ (by assumption) (fun hHeld => ?_); clear hK K)
      (try simp only [List.getElem_toArray, List.getElem_cons_zero, List.getElem_cons_succ, Act.put, List.setIfInBounds_toArray, List.set_cons_zero, List.set_cons_succ])
      refine wpAnyH_take (i := 21) (v := undef) rfl (by kernel_rfl) (by kernel_rfl) (by kernel_rfl) (fun _ _ _ h => h) (Or.inr ⟨by rfl, rfl⟩) (by assumption) ?_
      (try simp only [List.getElem_toArray, List.getElem_cons_zero, List.getElem_cons_succ, Act.put, List.setIfInBounds_toArray, List.set_cons_zero, List.set_cons_succ])
      refine wpAnyH_take (i := 22) (v := ?_) rfl (by kernel_rfl) (by kernel_rfl) (by kernel_rfl) (fun _ _ _ h => h) (Or.inl ⟨by rfl, ?_⟩) (by assumption) ?_
      rotate_left
      · intro w' hSw; (try dsimp only at hSw); (try simp only [List.getElem_toArray, List.getElem_cons_zero, List.getElem_cons_succ]); go_simp; try with_reducible rfl
      (try simp only [List.getElem_toArray, List.getElem_cons_zero, List.getElem_cons_succ, Act.put, List.setIfInBounds_toArray, List.set_cons_zero, List.set_cons_succ])
      refine wpAnyH_done (by kernel_rfl) ?_ _
      go_wp2_with fail
      refine (AW8.out _ qg).mono ?_
      rintro e wz ⟨rfl, kz⟩
      have Dz := Lib.hid (next0 D8.out (next0 qg kz))
      go_wp2_with fail
      go_ret
      exact ⟨rfl, Dz.out⟩
    have hVT := vld_all HVT.out
    have TA9 := Lib.hid (TA8.out fun b hb => (hVT b hb).1)
    have TB9 := Lib.hid (TB8.out fun b hb => (hVT b hb).1)
    have HVV := Lib.hid hVT
    clear TA8 TB8 hVT
    cases va
    case false =>
      clear VB8 TA9 TB9 CT CT2 SP
      have Hb : Hid (∀ w', Below wc.heap.size wc w' → w'.cell? ⟨w.heap.size, 0, none⟩ = some (.string an) ∧ w'.cell? ⟨w.heap.size, 1, none⟩ = some (.slice p1 al c1) ∧ w'.cell? ⟨w.heap.size + 1, 0, none⟩ = some (.string bn) ∧ w'.cell? ⟨w.heap.size + 1, 1, none⟩ = some (.slice p2 bl c2) ∧ Hid (Below wc.heap.size wc w')) := Lib.hid (fun w' g => ⟨(HH8.out w' g).1.1, (HH8.out w' g).1.2.1, (HH8.out w' g).2.1, (HH8.out w' g).2.2.1, Lib.hid g⟩)
      have hs0 := Hb.out _ (Below.refl wc.heap.size wc).drew
      clear y1 y2 y3 y4 y5 z1 z2 z3 z4 z5
      go_wp2_with fail
      refine wp_region_held_drew (S := (fun w' => w'.cell? ⟨w.heap.size, 0, none⟩ = some (.string an) ∧ w'.cell? ⟨w.heap.size, 1, none⟩ = some (.slice p1 al c1) ∧ w'.cell? ⟨w.heap.size + 1, 0, none⟩ = some (.string bn) ∧ w'.cell? ⟨w.heap.size + 1, 1, none⟩ = some (.slice p2 bl c2) ∧ Hid (Below wc.heap.size wc w'))) (by kernel_rfl) hs0 (fun hHeld => ?_)
      refine wpAnyH_take (i := 0) (v := ?_) rfl (by kernel_rfl) (by kernel_rfl) (by kernel_rfl) (fun _ _ _ h => h) (Or.inl ⟨by rfl, ?_⟩) (by assumption) ?_
      rotate_left
      · intro w' hSw; (try dsimp only at hSw); (try simp only [List.getElem_toArray, List.getElem_cons_zero]); go_simp; try with_reducible rfl
      (try simp only [List.getElem_toArray, List.getElem_cons_zero, Act.put, List.setIfInBounds_toArray, List.set_cons_zero, List.set_cons_succ])
      refine wpAnyH_ready (rs := [1]) (by kernel_rfl) (by simp) ?_
      refine AllReadyH.cons rfl (fun K hK => ?_) AllReadyH.nil
      go_simp
      (try go_split_ands)
      go_at_call 14
      (try go_split_ands)
      (with_reducible refine (VT8.out _ (by repeat (first | (with_reducible exact Hid.out (by assumption)) | (with_reducible exact Below.refl _ _) | (with_reducible refine Below.drew ?_)))).mono ?_)
      rintro e w' ⟨rfl, q0⟩
      (have qg : Below wc.heap.size wc w' := by (refine next0 ?_ q0.1; repeat (first | (with_reducible exact Hid.out (by assumption)) | (with_reducible exact Below.refl _ _) | (with_reducible refine Below.drew ?_))))
      clear q0
      refine hK.out _ _ (Hb.out _ qg) (fun hHeld => ?_)
      clear hK K
      (try simp only [List.getElem_toArray, List.getElem_cons_zero, List.getElem_cons_succ, Act.put, List.setIfInBounds_toArray, List.set_cons_zero, List.set_cons_succ])
      refine wpAnyH_take (i := 2) (v := ?_) rfl (by kernel_rfl) (by kernel_rfl) (by kernel_rfl) (fun _ _ _ h => h) (Or.inl ⟨by rfl, ?_⟩) (by assumption) ?_
      rotate_left
      · intro w' hSw; (try dsimp only at hSw); (try simp only [List.getElem_toArray, List.getElem_cons_zero, List.getElem_cons_succ]); go_simp; try with_reducible rfl
      (try simp only [List.getElem_toArray, List.getElem_cons_zero, List.getElem_cons_succ, Act.put, List.setIfInBounds_toArray, List.set_cons_zero, List.set_cons_succ])
      refine wpAnyH_take (i := 3) (v := ?_) rfl (by kernel_rfl) (by kernel_rfl) (by kernel_rfl) (fun _ _ _ h => h) (Or.inl ⟨by rfl, ?_⟩) (by assumption) ?_
      rotate_left
      · intro w' hSw; (try dsimp only at hSw); (try simp only [List.getElem_toArray, List.getElem_cons_zero, List.getElem_cons_succ]); go_simp; try with_reducible rfl
      (try simp only [List.getElem_toArray, List.getElem_cons_zero, List.getElem_cons_succ, Act.put, List.setIfInBounds_toArray, List.set_cons_zero, List.set_cons_succ])
      refine wpAnyH_take (i := 4) (v := ?_) rfl (by kernel_rfl) (by kernel_rfl) (by kernel_rfl) (fun _ _ _ h => h) (Or.inl ⟨by rfl, ?_⟩) (by assumption) ?_
      rotate_left
      · intro w' hSw; (try dsimp only at hSw); (try simp only [List.getElem_toArray, List.getElem_cons_zero, List.getElem_cons_succ]); go_simp; try with_reducible rfl
      (try simp only [List.getElem_toArray, List.getElem_cons_zero, List.getElem_cons_succ, Act.put, List.setIfInBounds_toArray, List.set_cons_zero, List.set_cons_succ])
      refine wpAnyH_ready (rs := [5]) (by kernel_rfl) (by simp) ?_
      refine AllReadyH.cons rfl (fun K hK => ?_) AllReadyH.nil
      go_simp
      (try go_split_ands)
      go_at_call 35
      (try go_split_ands)
      (with_reducible refine (VA8.out _ (by repeat (first | (with_reducible exact Hid.out (by assumption)) | (with_reducible exact Below.refl _ _) | (with_reducible refine Below.drew ?_)))).mono ?_)
      rintro e w' ⟨rfl, q0⟩
      (have qg : Below wc.heap.size wc w' := by (refine next0 ?_ q0.1; repeat (first | (with_reducible exact Hid.out (by assumption)) | (with_reducible exact Below.refl _ _) | (with_reducible refine Below.drew ?_))))
      clear q0
      refine hK.out _ _ (Hb.out _ qg) (fun hHeld => ?_)
      clear hK K
      (try simp only [List.getElem_toArray, List.getElem_cons_zero, List.getElem_cons_succ, Act.put, List.setIfInBounds_toArray, List.set_cons_zero, List.set_cons_succ])
      refine wpAnyH_take (i := 6) (v := ?_) rfl (by kernel_rfl) (by kernel_rfl) (by kernel_rfl) (fun _ _ _ h => h) (Or.inl ⟨by rfl, ?_⟩) (by assumption) ?_
      rotate_left
      · intro w' hSw; (try dsimp only at hSw); (try simp only [List.getElem_toArray, List.getElem_cons_zero, List.getElem_cons_succ]); go_simp; try with_reducible rfl
      (try simp only [List.getElem_toArray, List.getElem_cons_zero, List.getElem_cons_succ, Act.put, List.setIfInBounds_toArray, List.set_cons_zero, List.set_cons_succ])
      refine wpAnyH_take (i := 7) (v := ?_) rfl (by kernel_rfl) (by kernel_rfl) (by kernel_rfl) (fun _ _ _ h => h) (Or.inl ⟨by rfl, ?_⟩) (by assumption) ?_
      rotate_left
      · intro w' hSw; (try dsimp only at hSw); (try simp only [List.getElem_toArray, List.getElem_cons_zero, List.getElem_cons_succ]); go_simp; try with_reducible rfl
      (try simp only [List.getElem_toArray, List.getElem_cons_zero, List.getElem_cons_succ, Act.put, List.setIfInBounds_toArray, List.set_cons_zero, List.set_cons_succ])
      refine wpAnyH_take (i := 8) (v := ?_) rfl (by kernel_rfl) (by kernel_rfl) (by kernel_rfl) (fun _ _ _ h => h) (Or.inl ⟨by rfl, ?_⟩) (by assumption) ?_
      rotate_left
      · intro w' hSw; (try dsimp only at hSw); (try simp only [List.getElem_toArray, List.getElem_cons_zero, List.getElem_cons_succ]); go_simp; try with_reducible rfl
      (try simp only [List.getElem_toArray, List.getElem_cons_zero, List.getElem_cons_succ, Act.put, List.setIfInBounds_toArray, List.set_cons_zero, List.set_cons_succ])
      first
        | (refine wpAnyH_take (i := 9) (v := undef) rfl (by kernel_rfl) (by kernel_rfl) (by kernel_rfl) (fun _ _ _ h => h) (Or.inr ⟨by rfl, rfl⟩) (by assumption) ?_)
        | (refine wpAnyH_ready (rs := [9]) (by kernel_rfl) (by simp) ?_; refine AllReadyH.cons rfl (fun K hK => ?_) AllReadyH.nil; rw [if_neg (by decide)]; refine hK.out _ _ (by assumption) (fun hHeld => ?_); clear hK K)
      (try simp only [List.getElem_toArray, List.getElem_cons_zero, List.getElem_cons_succ, Act.put, List.setIfInBounds_toArray, List.set_cons_zero, List.set_cons_succ])
      first
        | (refine wpAnyH_take (i := 10) (v := undef) rfl (by kernel_rfl) (by kernel_rfl) (by kernel_rfl) (fun _ _ _ h => h) (Or.inr ⟨by rfl, rfl⟩) (by assumption) ?_)
        | (refine wpAnyH_ready (rs := [10]) (by kernel_rfl) (by simp) ?_; refine AllReadyH.cons rfl (fun K hK => ?_) AllReadyH.nil; rw [if_neg (by decide)]; refine hK.out _ _ (by assumption) (fun hHeld => ?_); clear hK K)
      (try simp only [List.getElem_toArray, List.getElem_cons_zero, List.getElem_cons_succ, Act.put, List.setIfInBounds_toArray, List.set_cons_zero, List.set_cons_succ])
      refine wpAnyH_take (i := 11) (v := undef) rfl (by kernel_rfl) (by kernel_rfl) (by kernel_rfl) (fun _ _ _ h => h) (Or.inr ⟨by rfl, rfl⟩) (by assumption) ?_
      (try simp only [List.getElem_toArray, List.getElem_cons_zero, List.getElem_cons_succ, Act.put, List.setIfInBounds_toArray, List.set_cons_zero, List.set_cons_succ])
      refine wpAnyH_take (i := 12) (v := ?_) rfl (by kernel_rfl) (by kernel_rfl) (by kernel_rfl) (fun _ _ _ h => h) (Or.inl ⟨by rfl, ?_⟩) (by assumption) ?_
      rotate_left
      · intro w' hSw; (try dsimp only at hSw); (try simp only [List.getElem_toArray, List.getElem_cons_zero, List.getElem_cons_succ]); go_simp; try with_reducible rfl
      (try simp only [List.getElem_toArray, List.getElem_cons_zero, List.getElem_cons_succ, Act.put, List.setIfInBounds_toArray, List.set_cons_zero, List.set_cons_succ])
      refine wpAnyH_take (i := 13) (v := ?_) rfl (by kernel_rfl) (by kernel_rfl) (by kernel_rfl) (fun _ _ _ h => h) (Or.inl ⟨by rfl, ?_⟩) (by assumption) ?_
      rotate_left
      · intro w' hSw; (try dsimp only at hSw); (try simp only [List.getElem_toArray, List.getElem_cons_zero, List.getElem_cons_succ]); go_simp; try with_reducible rfl
      (try simp only [List.getElem_toArray, List.getElem_cons_zero, List.getElem_cons_succ, Act.put, List.setIfInBounds_toArray, List.set_cons_zero, List.set_cons_succ])
      refine wpAnyH_take (i := 14) (v := undef) rfl (by kernel_rfl) (by kernel_rfl) (by kernel_rfl) (fun _ _ _ h => h) (Or.inr ⟨by rfl, rfl⟩) (by assumption) ?_
      (try simp only [List.getElem_toArray, List.getElem_cons_zero, List.getElem_cons_succ, Act.put, List.setIfInBounds_toArray, List.set_cons_zero, List.set_cons_succ])
      first
        | (refine wpAnyH_take (i := 15) (v := undef) rfl (by kernel_rfl) (by kernel_rfl) (by kernel_rfl) (fun _ _ _ h => h) (Or.inr ⟨by rfl, rfl⟩) (by assumption) ?_)
        | (refine wpAnyH_ready (rs := [15]) (by kernel_rfl) (by simp) ?_; refine AllReadyH.cons rfl (fun K hK => ?_) AllReadyH.nil; rw [if_neg (by decide)]; refine hK.out _ _ (by assumption) (fun hHeld => ?_); clear hK K)
      (try simp only [List.getElem_toArray, List.getElem_cons_zero, List.getElem_cons_succ, Act.put, List.setIfInBounds_toArray, List.set_cons_zero, List.set_cons_succ])
      first
        | (refine wpAnyH_take (i := 16) (v := undef) rfl (by kernel_rfl) (by kernel_rfl) (by kernel_rfl) (fun _ _ _ h => h) (Or.inr ⟨by rfl, rfl⟩) (by assumption) ?_)
        | (refine wpAnyH_ready (rs := [16]) (by kernel_rfl) (by simp) ?_; refine AllReadyH.cons rfl (fun K hK => ?_) AllReadyH.nil; rw [if_neg (by decide)]; refine hK.out _ _ (by assumption) (fun hHeld => ?_); clear hK K)
      (try simp only [List.getElem_toArray, List.getElem_cons_zero, List.getElem_cons_succ, Act.put, List.setIfInBounds_toArray, List.set_cons_zero, List.set_cons_succ])
      refine wpAnyH_take (i := 17) (v := undef) rfl (by kernel_rfl) (by kernel_rfl) (by kernel_rfl) (fun _ _ _ h => h) (Or.inr ⟨by rfl, rfl⟩) (by assumption) ?_
      (try simp only [List.getElem_toArray, List.getElem_cons_zero, List.getElem_cons_succ, Act.put, List.setIfInBounds_toArray, List.set_cons_zero, List.set_cons_succ])
      first
        | (refine wpAnyH_take (i := 18) (v := undef) rfl (by kernel_rfl) (by kernel_rfl) (by kernel_rfl) (fun _ _ _ h => h) (Or.inr ⟨by rfl, rfl⟩) (by assumption) ?_)
        | (refine wpAnyH_ready (rs := [18]) (by kernel_rfl) (by simp) ?_; refine AllReadyH.cons rfl (fun K hK => ?_) AllReadyH.nil; rw [if_neg (by decide)]; refine hK.out _ _ (by assumption) (fun hHeld => ?_); clear hK K)
      (try simp only [List.getElem_toArray, List.getElem_cons_zero, List.getElem_cons_succ, Act.put, List.setIfInBounds_toArray, List.set_cons_zero, List.set_cons_succ])
      first
        | (refine wpAnyH_take (i := 19) (v := undef) rfl (by kernel_rfl) (by kernel_rfl) (by kernel_rfl) (fun _ _ _ h => h) (Or.inr ⟨by rfl, rfl⟩) (by assumption) ?_)
        | (refine wpAnyH_ready (rs := [19]) (by kernel_rfl) (by simp) ?_; refine AllReadyH.cons rfl (fun K hK => ?_) AllReadyH.nil; rw [if_neg (by decide)]; refine hK.out _ _ (by assumption) (fun hHeld => ?_); clear hK K)
      (try simp only [List.getElem_toArray, List.getElem_cons_zero, List.getElem_cons_succ, Act.put, List.setIfInBounds_toArray, List.set_cons_zero, List.set_cons_succ])
      first
        | (refine wpAnyH_take (i := 20) (v := undef) rfl (by kernel_rfl) (by kernel_rfl) (by kernel_rfl) (fun _ _ _ h => h) (Or.inr ⟨by rfl, rfl⟩) (by assumption) ?_)
        | (refine wpAnyH_ready (rs := [20]) (by kernel_rfl) (by simp) ?_; refine AllReadyH.cons rfl (fun K hK => ?_) AllReadyH.nil; rw [if_neg (by decide)]; refine hK.out _ _ (by assumption) (fun hHeld => ?_); clear hK K)
      (try simp only [List.getElem_toArray, List.getElem_cons_zero, List.getElem_cons_succ, Act.put, List.setIfInBounds_toArray, List.set_cons_zero, List.set_cons_succ])
      refine wpAnyH_take (i := 21) (v := undef) rfl (by kernel_rfl) (by kernel_rfl) (by kernel_rfl) (fun _ _ _ h => h) (Or.inr ⟨by rfl, rfl⟩) (by assumption) ?_
      (try simp only [List.getElem_toArray, List.getElem_cons_zero, List.getElem_cons_succ, Act.put, List.setIfInBounds_toArray, List.set_cons_zero, List.set_cons_succ])
      refine wpAnyH_take (i := 22) (v := ?_) rfl (by kernel_rfl) (by kernel_rfl) (by kernel_rfl) (fun _ _ _ h => h) (Or.inl ⟨by rfl, ?_⟩) (by assumption) ?_
      rotate_left
      · intro w' hSw; (try dsimp only at hSw); (try simp only [List.getElem_toArray, List.getElem_cons_zero, List.getElem_cons_succ]); go_simp; try with_reducible rfl
      (try simp only [List.getElem_toArray, List.getElem_cons_zero, List.getElem_cons_succ, Act.put, List.setIfInBounds_toArray, List.set_cons_zero, List.set_cons_succ])
      refine wpAnyH_done (by kernel_rfl) ?_ _
      go_wp2_with fail
      refine (AW8.out _ qg).mono ?_
      rintro e wz ⟨rfl, kz⟩
      have Dz := Lib.hid (next0 D8.out (next0 qg kz))
      go_wp2_with fail
      go_ret
      exact ⟨rfl, Dz.out⟩
    cases vb
    case false =>
      clear TA9 TB9 CT CT2 SP
      have Hb : Hid (∀ w', Below wc.heap.size wc w' → w'.cell? ⟨w.heap.size, 0, none⟩ = some (.string an) ∧ w'.cell? ⟨w.heap.size, 1, none⟩ = some (.slice p1 al c1) ∧ w'.cell? ⟨w.heap.size + 1, 0, none⟩ = some (.string bn) ∧ w'.cell? ⟨w.heap.size + 1, 1, none⟩ = some (.slice p2 bl c2) ∧ Hid (Below wc.heap.size wc w')) := Lib.hid (fun w' g => ⟨(HH8.out w' g).1.1, (HH8.out w' g).1.2.1, (HH8.out w' g).2.1, (HH8.out w' g).2.2.1, Lib.hid g⟩)
      have hs0 := Hb.out _ (Below.refl wc.heap.size wc).drew
      clear y1 y2 y3 y4 y5 z1 z2 z3 z4 z5
      go_wp2_with fail
      refine wp_region_held_drew (S := (fun w' => w'.cell? ⟨w.heap.size, 0, none⟩ = some (.string an) ∧ w'.cell? ⟨w.heap.size, 1, none⟩ = some (.slice p1 al c1) ∧ w'.cell? ⟨w.heap.size + 1, 0, none⟩ = some (.string bn) ∧ w'.cell? ⟨w.heap.size + 1, 1, none⟩ = some (.slice p2 bl c2) ∧ Hid (Below wc.heap.size wc w'))) (by kernel_rfl) hs0 (fun hHeld => ?_)
      refine wpAnyH_take (i := 0) (v := ?_) rfl (by kernel_rfl) (by kernel_rfl) (by kernel_rfl) (fun _ _ _ h => h) (Or.inl ⟨by rfl, ?_⟩) (by assumption) ?_
      rotate_left
      · intro w' hSw; (try dsimp only at hSw); (try simp only [List.getElem_toArray, List.getElem_cons_zero]); go_simp; try with_reducible rfl
      (try simp only [List.getElem_toArray, List.getElem_cons_zero, Act.put, List.setIfInBounds_toArray, List.set_cons_zero, List.set_cons_succ])
      refine wpAnyH_ready (rs := [1]) (by kernel_rfl) (by simp) ?_
      refine AllReadyH.cons rfl (fun K hK => ?_) AllReadyH.nil
      go_simp
      (try go_split_ands)
      go_at_call 14
      (try go_split_ands)
      (with_reducible refine (VT8.out _ (by repeat (first | (with_reducible exact Hid.out (by assumption)) | (with_reducible exact Below.refl _ _) | (with_reducible refine Below.drew ?_)))).mono ?_)
      rintro e w' ⟨rfl, q0⟩
      (have qg : Below wc.heap.size wc w' := by (refine next0 ?_ q0.1; repeat (first | (with_reducible exact Hid.out (by assumption)) | (with_reducible exact Below.refl _ _) | (with_reducible refine Below.drew ?_))))
      clear q0
      refine hK.out _ _ (Hb.out _ qg) (fun hHeld => ?_)
      clear hK K
      (try simp only [List.getElem_toArray, List.getElem_cons_zero, List.getElem_cons_succ, Act.put, List.setIfInBounds_toArray, List.set_cons_zero, List.set_cons_succ])
      refine wpAnyH_take (i := 2) (v := ?_) rfl (by kernel_rfl) (by kernel_rfl) (by kernel_rfl) (fun _ _ _ h => h) (Or.inl ⟨by rfl, ?_⟩) (by assumption) ?_
      rotate_left
      · intro w' hSw; (try dsimp only at hSw); (try simp only [List.getElem_toArray, List.getElem_cons_zero, List.getElem_cons_succ]); go_simp; try with_reducible rfl
      (try simp only [List.getElem_toArray, List.getElem_cons_zero, List.getElem_cons_succ, Act.put, List.setIfInBounds_toArray, List.set_cons_zero, List.set_cons_succ])
      refine wpAnyH_take (i := 3) (v := ?_) rfl (by kernel_rfl) (by kernel_rfl) (by kernel_rfl) (fun _ _ _ h => h) (Or.inl ⟨by rfl, ?_⟩) (by assumption) ?_
      rotate_left
      · intro w' hSw; (try dsimp only at hSw); (try simp only [List.getElem_toArray, List.getElem_cons_zero, List.getElem_cons_succ]); go_simp; try with_reducible rfl
      (try simp only [List.getElem_toArray, List.getElem_cons_zero, List.getElem_cons_succ, Act.put, List.setIfInBounds_toArray, List.set_cons_zero, List.set_cons_succ])
      refine wpAnyH_take (i := 4) (v := ?_) rfl (by kernel_rfl) (by kernel_rfl) (by kernel_rfl) (fun _ _ _ h => h) (Or.inl ⟨by rfl, ?_⟩) (by assumption) ?_
      rotate_left
      · intro w' hSw; (try dsimp only at hSw); (try simp only [List.getElem_toArray, List.getElem_cons_zero, List.getElem_cons_succ]); go_simp; try with_reducible rfl
      (try simp only [List.getElem_toArray, List.getElem_cons_zero, List.getElem_cons_succ, Act.put, List.setIfInBounds_toArray, List.set_cons_zero, List.set_cons_succ])
      refine wpAnyH_ready (rs := [5]) (by kernel_rfl) (by simp) ?_
      refine AllReadyH.cons rfl (fun K hK => ?_) AllReadyH.nil
      go_simp
      (try go_split_ands)
      go_at_call 35
      (try go_split_ands)
      (with_reducible refine (VA8.out _ (by repeat (first | (with_reducible exact Hid.out (by assumption)) | (with_reducible exact Below.refl _ _) | (with_reducible refine Below.drew ?_)))).mono ?_)
      rintro e w' ⟨rfl, q0⟩
      (have qg : Below wc.heap.size wc w' := by (refine next0 ?_ q0.1; repeat (first | (with_reducible exact Hid.out (by assumption)) | (with_reducible exact Below.refl _ _) | (with_reducible refine Below.drew ?_))))
      clear q0
      refine hK.out _ _ (Hb.out _ qg) (fun hHeld => ?_)
      clear hK K
      (try simp only [List.getElem_toArray, List.getElem_cons_zero, List.getElem_cons_succ, Act.put, List.setIfInBounds_toArray, List.set_cons_zero, List.set_cons_succ])
      refine wpAnyH_take (i := 6) (v := ?_) rfl (by kernel_rfl) (by kernel_rfl) (by kernel_rfl) (fun _ _ _ h => h) (Or.inl ⟨by rfl, ?_⟩) (by assumption) ?_
      rotate_left
      · intro w' hSw; (try dsimp only at hSw); (try simp only [List.getElem_toArray, List.getElem_cons_zero, List.getElem_cons_succ]); go_simp; try with_reducible rfl
      (try simp only [List.getElem_toArray, List.getElem_cons_zero, List.getElem_cons_succ, Act.put, List.setIfInBounds_toArray, List.set_cons_zero, List.set_cons_succ])
      refine wpAnyH_take (i := 7) (v := ?_) rfl (by kernel_rfl) (by kernel_rfl) (by kernel_rfl) (fun _ _ _ h => h) (Or.inl ⟨by rfl, ?_⟩) (by assumption) ?_
      rotate_left
      · intro w' hSw; (try dsimp only at hSw); (try simp only [List.getElem_toArray, List.getElem_cons_zero, List.getElem_cons_succ]); go_simp; try with_reducible rfl
      (try simp only [List.getElem_toArray, List.getElem_cons_zero, List.getElem_cons_succ, Act.put, List.setIfInBounds_toArray, List.set_cons_zero, List.set_cons_succ])
      refine wpAnyH_take (i := 8) (v := ?_) rfl (by kernel_rfl) (by kernel_rfl) (by kernel_rfl) (fun _ _ _ h => h) (Or.inl ⟨by rfl, ?_⟩) (by assumption) ?_
      rotate_left
      · intro w' hSw; (try dsimp only at hSw); (try simp only [List.getElem_toArray, List.getElem_cons_zero, List.getElem_cons_succ]); go_simp; try with_reducible rfl
      (try simp only [List.getElem_toArray, List.getElem_cons_zero, List.getElem_cons_succ, Act.put, List.setIfInBounds_toArray, List.set_cons_zero, List.set_cons_succ])
      refine wpAnyH_take (i := 9) (v := ?_) rfl (by kernel_rfl) (by kernel_rfl) (by kernel_rfl) (fun _ _ _ h => h) (Or.inl ⟨by rfl, ?_⟩) (by assumption) ?_
      rotate_left
      · intro w' hSw; (try dsimp only at hSw); (try simp only [List.getElem_toArray, List.getElem_cons_zero, List.getElem_cons_succ]); go_simp; try with_reducible rfl
      (try simp only [List.getElem_toArray, List.getElem_cons_zero, List.getElem_cons_succ, Act.put, List.setIfInBounds_toArray, List.set_cons_zero, List.set_cons_succ])
      refine wpAnyH_ready (rs := [10]) (by kernel_rfl) (by simp) ?_
      refine AllReadyH.cons rfl (fun K hK => ?_) AllReadyH.nil
      go_simp
      (try go_split_ands)
      go_at_call 35
      (try go_split_ands)
      (with_reducible refine (VB8.out _ (by repeat (first | (with_reducible exact Hid.out (by assumption)) | (with_reducible exact Below.refl _ _) | (with_reducible refine Below.drew ?_)))).mono ?_)
      rintro e w' ⟨rfl, q0⟩
      (have qg : Below wc.heap.size wc w' := by (refine next0 ?_ q0.1; repeat (first | (with_reducible exact Hid.out (by assumption)) | (with_reducible exact Below.refl _ _) | (with_reducible refine Below.drew ?_))))
      clear q0
      refine hK.out _ _ (Hb.out _ qg) (fun hHeld => ?_)
      clear hK K
      (try simp only [List.getElem_toArray, List.getElem_cons_zero, List.getElem_cons_succ, Act.put, List.setIfInBounds_toArray, List.set_cons_zero, List.set_cons_succ])
      refine wpAnyH_take (i := 11) (v := ?_) rfl (by kernel_rfl) (by kernel_rfl) (by kernel_rfl) (fun _ _ _ h => h) (Or.inl ⟨by rfl, ?_⟩) (by assumption) ?_
      rotate_left
      · intro w' hSw; (try dsimp only at hSw); (try simp only [List.getElem_toArray, List.getElem_cons_zero, List.getElem_cons_succ]); go_simp; try with_reducible rfl
      (try simp only [List.getElem_toArray, List.getElem_cons_zero, List.getElem_cons_succ, Act.put, List.setIfInBounds_toArray, List.set_cons_zero, List.set_cons_succ])
      refine wpAnyH_take (i := 12) (v := ?_) rfl (by kernel_rfl) (by kernel_rfl) (by kernel_rfl) (fun _ _ _ h => h) (Or.inl ⟨by rfl, ?_⟩) (by assumption) ?_
      rotate_left
      · intro w' hSw; (try dsimp only at hSw); (try simp only [List.getElem_toArray, List.getElem_cons_zero, List.getElem_cons_succ]); go_simp; try with_reducible rfl
      (try simp only [List.getElem_toArray, List.getElem_cons_zero, List.getElem_cons_succ, Act.put, List.setIfInBounds_toArray, List.set_cons_zero, List.set_cons_succ])
      refine wpAnyH_take (i := 13) (v := ?_) rfl (by kernel_rfl) (by kernel_rfl) (by kernel_rfl) (fun _ _ _ h => h) (Or.inl ⟨by rfl, ?_⟩) (by assumption) ?_
      rotate_left
      · intro w' hSw; (try dsimp only at hSw); (try simp only [List.getElem_toArray, List.getElem_cons_zero, List.getElem_cons_succ]); go_simp; try with_reducible rfl
      (try simp only [List.getElem_toArray, List.getElem_cons_zero, List.getElem_cons_succ, Act.put, List.setIfInBounds_toArray, List.set_cons_zero, List.set_cons_succ])
      refine wpAnyH_take (i := 14) (v := undef) rfl (by kernel_rfl) (by kernel_rfl) (by kernel_rfl) (fun _ _ _ h => h) (Or.inr ⟨by rfl, rfl⟩) (by assumption) ?_
      (try simp only [List.getElem_toArray, List.getElem_cons_zero, List.getElem_cons_succ, Act.put, List.setIfInBounds_toArray, List.set_cons_zero, List.set_cons_succ])
      first
        | (refine wpAnyH_take (i := 15) (v := undef) rfl (by kernel_rfl) (by kernel_rfl) (by kernel_rfl) (fun _ _ _ h => h) (Or.inr ⟨by rfl, rfl⟩) (by assumption) ?_)
        | (refine wpAnyH_ready (rs := [15]) (by kernel_rfl) (by simp) ?_; refine AllReadyH.cons rfl (fun K hK => ?_) AllReadyH.nil; rw [if_neg (by decide)]; refine hK.out _ _ (by assumption) (fun hHeld => ?_); clear hK K)
      (try simp only [List.getElem_toArray, List.getElem_cons_zero, List.getElem_cons_succ, Act.put, List.setIfInBounds_toArray, List.set_cons_zero, List.set_cons_succ])
      first
        | (refine wpAnyH_take (i := 16) (v := undef) rfl (by kernel_rfl) (by kernel_rfl) (by kernel_rfl) (fun _ _ _ h => h) (Or.inr ⟨by rfl, rfl⟩) (by assumption) ?_)
        | (refine wpAnyH_ready (rs := [16]) (by kernel_rfl) (by simp) ?_; refine AllReadyH.cons rfl (fun K hK => ?_) AllReadyH.nil; rw [if_neg (by decide)]; refine hK.out _ _ (by assumption) (fun hHeld => ?_); clear hK K)
      (try simp only [List.getElem_toArray, List.getElem_cons_zero, List.getElem_cons_succ, Act.put, List.setIfInBounds_toArray, List.set_cons_zero, List.set_cons_succ])
      refine wpAnyH_take (i := 17) (v := undef) rfl (by kernel_rfl) (by kernel_rfl) (by kernel_rfl) (fun _ _ _ h => h) (Or.inr ⟨by rfl, rfl⟩) (by assumption) ?_
      (try simp only [List.getElem_toArray, List.getElem_cons_zero, List.getElem_cons_succ, Act.put, List.setIfInBounds_toArray, List.set_cons_zero, List.set_cons_succ])
      first
        | (refine wpAnyH_take (i := 18) (v := undef) rfl (by kernel_rfl) (by kernel_rfl) (by kernel_rfl) (fun _ _ _ h => h) (Or.inr ⟨by rfl, rfl⟩) (by assumption) ?_)
        | (refine wpAnyH_ready (rs := [18]) (by kernel_rfl) (by simp) ?_; refine AllReadyH.cons rfl (fun K hK => ?_) AllReadyH.nil; rw [if_neg (by decide)]; refine hK.out _ _ (by assumption) (fun hHeld => ?_); clear hK K)
      (try simp only [List.getElem_toArray, List.getElem_cons_zero, List.getElem_cons_succ, Act.put, List.setIfInBounds_toArray, List.set_cons_zero, List.set_cons_succ])
      first
        | (refine wpAnyH_take (i := 19) (v := undef) rfl (by kernel_rfl) (by kernel_rfl) (by kernel_rfl) (fun _ _ _ h => h) (Or.inr ⟨by rfl, rfl⟩) (by assumption) ?_)
        | (refine wpAnyH_ready (rs := [19]) (by kernel_rfl) (by simp) ?_; refine AllReadyH.cons rfl (fun K hK => ?_) AllReadyH.nil; rw [if_neg (by decide)]; refine hK.out _ _ (by assumption) (fun hHeld => ?_); clear hK K)
      (try simp only [List.getElem_toArray, List.getElem_cons_zero, List.getElem_cons_succ, Act.put, List.setIfInBounds_toArray, List.set_cons_zero, List.set_cons_succ])
      first
        | (refine wpAnyH_take (i := 20) (v := undef) rfl (by kernel_rfl) (by kernel_rfl) (by kernel_rfl) (fun _ _ _ h => h) (Or.inr ⟨by rfl, rfl⟩) (by assumption) ?_)
        | (refine wpAnyH_ready (rs := [20]) (by kernel_rfl) (by simp) ?_; refine AllReadyH.cons rfl (fun K hK => ?_) AllReadyH.nil; rw [if_neg (by decide)]; refine hK.out _ _ (by assumption) (fun hHeld => ?_); clear hK K)
      (try simp only [List.getElem_toArray, List.getElem_cons_zero, List.getElem_cons_succ, Act.put, List.setIfInBounds_toArray, List.set_cons_zero, List.set_cons_succ])
      refine wpAnyH_take (i := 21) (v := undef) rfl (by kernel_rfl) (by kernel_rfl) (by kernel_rfl) (fun _ _ _ h => h) (Or.inr ⟨by rfl, rfl⟩) (by assumption) ?_
      (try simp only [List.getElem_toArray, List.getElem_cons_zero, List.getElem_cons_succ, Act.put, List.setIfInBounds_toArray, List.set_cons_zero, List.set_cons_succ])
      refine wpAnyH_take (i := 22) (v := ?_) rfl (by kernel_rfl) (by kernel_rfl) (by kernel_rfl) (fun _ _ _ h => h) (Or.inl ⟨by rfl, ?_⟩) (by assumption) ?_
      rotate_left
      · intro w' hSw; (try dsimp only at hSw); (try simp only [List.getElem_toArray, List.getElem_cons_zero, List.getElem_cons_succ]); go_simp; try with_reducible rfl
      (try simp only [List.getElem_toArray, List.getElem_cons_zero, List.getElem_cons_succ, Act.put, List.setIfInBounds_toArray, List.set_cons_zero, List.set_cons_succ])
      refine wpAnyH_done (by kernel_rfl) ?_ _
      go_wp2_with fail
      refine (AW8.out _ qg).mono ?_
      rintro e wz ⟨rfl, kz⟩
      have Dz := Lib.hid (next0 D8.out (next0 qg kz))
      go_wp2_with fail
      go_ret
      exact ⟨rfl, Dz.out⟩
    have SPO := Lib.hid (SP.out HVA.out HVB.out)
    have CE8 := Lib.hid (fun q q' w' h h' => CT2.out (appT t a) (appT t b) q q' w' h h')
    have LS8 := Lib.hid (fun (h : o = some s) => (most_some SPO.out h).2)
    have LT8 := Lib.hid (vld_srt HVT.out).2
    have OK8 := Lib.hid (fun (e : appT t a = appT t b) => most_ok SPO.out HVT.out e)
    have IN8 := Lib.hid (fun (hC : Canon a b s) (e : appT t a = appT t b) (v : ByteArray) (hv : varB v = true) => most_inst hC HVT.out e hv)
    obtain ⟨ze, hze⟩ : ∃ z, (cmpT (appT t a) (appT t b) == 0) = z := ⟨_, rfl⟩
    have HZE : Hid (ze = true → appT t a = appT t b) := Lib.hid (fun h => by rw [← hze, beq_iff_eq] at h; exact (cmp_zero _ _).1 h)
    rw [hze] at CE8
    have TA8 := TA9
    have TB8 := TB9
    clear CT2 SP hze TA9 TB9 SPO
    generalize (appT t a).nm = tan at *
    generalize (appT t a).args.length = tal at *
    generalize (appT t b).nm = tbn at *
    generalize (appT t b).args.length = tbl at *
    cases ze
    case false =>
      clear CT OK8 IN8
      go_wp2_with fail
      go_region_law (first
        | (go_simp; go_at_call 14; (with_reducible refine (VT8.out _ (by first | exact Below.refl _ _ | exact (Below.refl _ _).drew | exact below_drewN (Below.refl _ _) _)).mono ?_); rintro e wd ⟨rfl, gd⟩; have Kd : Hid (Below wc.heap.size wc wd) := Lib.hid (by first | exact next0 (Below.refl _ _) gd.1 | exact next0 (Below.refl _ _).drew gd.1 | exact next0 (below_drewN (Below.refl _ _) _) gd.1); clear gd y1 y2 y3 y4 y5 z1 z2 z3 z4 z5; obtain ⟨⟨y1, y2, y3, y4, y5⟩, z1, z2, z3, z4, z5⟩ := HH8.out wd Kd.out)
        | (go_simp; go_at_call 35; (with_reducible refine (VA8.out _ (by first | exact Kd.out | exact Kd.out.drew | exact below_drewN Kd.out _)).mono ?_); rintro e we ⟨rfl, ge⟩; have Ke : Hid (Below wc.heap.size wc we) := Lib.hid (by first | exact next0 Kd.out ge.1 | exact next0 Kd.out.drew ge.1 | exact next0 (below_drewN Kd.out _) ge.1); clear ge y1 y2 y3 y4 y5 z1 z2 z3 z4 z5; obtain ⟨⟨y1, y2, y3, y4, y5⟩, z1, z2, z3, z4, z5⟩ := HH8.out we Ke.out)
        | (go_simp; go_at_call 35; (with_reducible refine (VB8.out _ (by first | exact Ke.out | exact Ke.out.drew | exact below_drewN Ke.out _)).mono ?_); rintro e wf ⟨rfl, gf⟩; have Kf : Hid (Below wc.heap.size wc wf) := Lib.hid (by first | exact next0 Ke.out gf.1 | exact next0 Ke.out.drew gf.1 | exact next0 (below_drewN Ke.out _) gf.1); clear gf y1 y2 y3 y4 y5 z1 z2 z3 z4 z5; obtain ⟨⟨y1, y2, y3, y4, y5⟩, z1, z2, z3, z4, z5⟩ := HH8.out wf Kf.out)
        | (go_simp; go_at_call 21; (with_reducible refine (TA8.out _ (by first | exact Kf.out | exact Kf.out.drew | exact below_drewN Kf.out _)).mono ?_); rintro e wg ⟨qg, dg, lg, rfl, hlg, sg, ng, kg⟩; have Kg : Hid (Below wc.heap.size wc wg) := Lib.hid (by first | exact next0 Kf.out kg | exact next0 Kf.out.drew kg | exact next0 (below_drewN Kf.out _) kg); have Sg := Lib.hid (fun w' (k : Below wg.heap.size wg w') => ((sg.weaken (ok' := (· < wg.heap.size)) fun b hb => by have h1 := kg.size; have h2 := hb; subst hlg; first | omega | (rcases h2 with h2 | h2; exact Nat.lt_of_lt_of_le h2 h1; exact h2.2)).deep k (Nat.le_refl _)).weaken (ok' := (· < w'.heap.size)) fun b hb => Nat.lt_of_lt_of_le hb k.size); clear sg ng kg y1 y2 y3 y4 y5 z1 z2 z3 z4 z5; obtain ⟨⟨y1, y2, y3, y4, y5⟩, z1, z2, z3, z4, z5⟩ := HH8.out wg Kg.out)
        | (go_simp; go_at_call 21; (with_reducible refine (TB8.out _ (by first | exact Kg.out | exact Kg.out.drew | exact below_drewN Kg.out _)).mono ?_); rintro e wh ⟨qh, dh, lh, rfl, hlh, sh, nh, kh⟩; have Jh : Hid (Below wg.heap.size wg wh) := Lib.hid (by first | exact next0 (Below.refl _ _) kh | exact next0 (Below.refl _ _).drew kh | exact next0 (below_drewN (Below.refl _ _) _) kh); have Kh : Hid (Below wc.heap.size wc wh) := Lib.hid (next0 Kg.out Jh.out); have Sh := Lib.hid (sh.weaken (ok' := (· < wh.heap.size)) fun b hb => by have h1 := kh.size; have h2 := hb; subst hlh; first | omega | (rcases h2 with h2 | h2; exact Nat.lt_of_lt_of_le h2 h1; exact h2.2)); clear sh nh kh)
        | (go_simp; go_at_call 18; (with_reducible refine (CE8.out _ _ _ (by first | exact Sg.out _ Jh.out | exact (Sg.out _ Jh.out).frame fun _ _ _ => rfl) (by first | exact Sh.out | exact Sh.out.frame fun _ _ _ => rfl)).mono ?_); rintro e wi ⟨rfl, gi⟩; have Ki : Hid (Below wc.heap.size wc wi) := Lib.hid (by first | exact next0 Kh.out gi.1 | exact next0 Kh.out.drew gi.1 | exact next0 (below_drewN Kh.out _) gi.1); clear gi))
      all_goals
        go_wp2_with fail
        refine (AW8.out _ Ki.out).mono ?_
        rintro e wz ⟨rfl, kz⟩
        have Dz := Lib.hid (next0 D8.out (next0 Ki.out kz))
        go_wp2_with fail
        go_ret
        exact ⟨rfl, Dz.out⟩
    have EQ8 := HZE.out rfl
    have HF : Hid (f6 = true) := Lib.hid (by
      cases f6
      · obtain ⟨s', hs'⟩ := OK8.out EQ8
        rw [(NO.out rfl).1] at hs'
        cases hs'
      · rfl)
    obtain rfl := HF.out
    have hC := (CA.out rfl).1
    have VS : Hid (∀ x ∈ s, varB x.1 = true) := Lib.hid hC.1.2.1
    have VT9 : Hid (∀ x ∈ t, varB x.1 = true) := Lib.hid (fun x hx => (HVV.out x hx).1)
    have APs := Lib.hid (fun (n : ByteArray) (hn : n.size ≤ maxLen) w' (k : Below wc.heap.size wc w') => rapply_any s VS.out (.mk n []) w'.heap.size w' _ (.slice none 0 0) (Nat.le_refl _) (SS8.out w' k) (SlIn.none _ _) hn (by simp [sizeT, sizeL]))
    have APt := Lib.hid (fun (u : Tm) (hn : u.nm.size ≤ maxLen) (hz : sizeT u ≤ 1000000) w' (k : Below wc.heap.size wc w') q (hq : SlIn (· < w'.heap.size) w' u.args q) => rapply_any t VT9.out u w'.heap.size w' _ q (Nat.le_refl _) (ST8.out w' k) hq hn hz)
    have ONE := Lib.hid (fun (n : ByteArray) (hv : varB n = true) => And.intro (IN8.out hC EQ8 n hv) (u1_ok hC hv))
    have hls := LS8.out (CA.out rfl).2.1
    have hlt := LT8.out
    rw [HSL.out] at hls
    rw [HTL.out] at hlt
    have hsum : ((sl : Int) + (tl : Int)) ≤ 9223372036854775807 := by omega
    have hsum0 : 0 ≤ ((sl : Int) + (tl : Int)) := by omega
    clear LS8 LT8 OK8 IN8 EQ8 HZE HVV CA NO hC HVT HVA HVB Z1 Z2 SMt HF SS8 ST8
    go_upto_region 8 with fail
    go_cut [74] (fun v74 wx => v74 = .bool false ∧ Hid (Below wc.heap.size wc wx))
    case first =>
      go_region_law (first
        | (go_simp; go_at_call 14; (with_reducible refine (VT8.out _ (by first | exact Below.refl _ _ | exact (Below.refl _ _).drew | exact below_drewN (Below.refl _ _) _)).mono ?_); rintro e wd ⟨rfl, gd⟩; have Kd : Hid (Below wc.heap.size wc wd) := Lib.hid (by first | exact next0 (Below.refl _ _) gd.1 | exact next0 (Below.refl _ _).drew gd.1 | exact next0 (below_drewN (Below.refl _ _) _) gd.1); clear gd y1 y2 y3 y4 y5 z1 z2 z3 z4 z5; obtain ⟨⟨y1, y2, y3, y4, y5⟩, z1, z2, z3, z4, z5⟩ := HH8.out wd Kd.out)
        | (go_simp; go_at_call 35; (with_reducible refine (VA8.out _ (by first | exact Kd.out | exact Kd.out.drew | exact below_drewN Kd.out _)).mono ?_); rintro e we ⟨rfl, ge⟩; have Ke : Hid (Below wc.heap.size wc we) := Lib.hid (by first | exact next0 Kd.out ge.1 | exact next0 Kd.out.drew ge.1 | exact next0 (below_drewN Kd.out _) ge.1); clear ge y1 y2 y3 y4 y5 z1 z2 z3 z4 z5; obtain ⟨⟨y1, y2, y3, y4, y5⟩, z1, z2, z3, z4, z5⟩ := HH8.out we Ke.out)
        | (go_simp; go_at_call 35; (with_reducible refine (VB8.out _ (by first | exact Ke.out | exact Ke.out.drew | exact below_drewN Ke.out _)).mono ?_); rintro e wf ⟨rfl, gf⟩; have Kf : Hid (Below wc.heap.size wc wf) := Lib.hid (by first | exact next0 Ke.out gf.1 | exact next0 Ke.out.drew gf.1 | exact next0 (below_drewN Ke.out _) gf.1); clear gf y1 y2 y3 y4 y5 z1 z2 z3 z4 z5; obtain ⟨⟨y1, y2, y3, y4, y5⟩, z1, z2, z3, z4, z5⟩ := HH8.out wf Kf.out)
        | (go_simp; go_at_call 21; (with_reducible refine (TA8.out _ (by first | exact Kf.out | exact Kf.out.drew | exact below_drewN Kf.out _)).mono ?_); rintro e wg ⟨qg, dg, lg, rfl, hlg, sg, ng, kg⟩; have Kg : Hid (Below wc.heap.size wc wg) := Lib.hid (by first | exact next0 Kf.out kg | exact next0 Kf.out.drew kg | exact next0 (below_drewN Kf.out _) kg); have Sg := Lib.hid (fun w' (k : Below wg.heap.size wg w') => ((sg.weaken (ok' := (· < wg.heap.size)) fun b hb => by have h1 := kg.size; have h2 := hb; subst hlg; first | omega | (rcases h2 with h2 | h2; exact Nat.lt_of_lt_of_le h2 h1; exact h2.2)).deep k (Nat.le_refl _)).weaken (ok' := (· < w'.heap.size)) fun b hb => Nat.lt_of_lt_of_le hb k.size); clear sg ng kg y1 y2 y3 y4 y5 z1 z2 z3 z4 z5; obtain ⟨⟨y1, y2, y3, y4, y5⟩, z1, z2, z3, z4, z5⟩ := HH8.out wg Kg.out)
        | (go_simp; go_at_call 21; (with_reducible refine (TB8.out _ (by first | exact Kg.out | exact Kg.out.drew | exact below_drewN Kg.out _)).mono ?_); rintro e wh ⟨qh, dh, lh, rfl, hlh, sh, nh, kh⟩; have Jh : Hid (Below wg.heap.size wg wh) := Lib.hid (by first | exact next0 (Below.refl _ _) kh | exact next0 (Below.refl _ _).drew kh | exact next0 (below_drewN (Below.refl _ _) _) kh); have Kh : Hid (Below wc.heap.size wc wh) := Lib.hid (next0 Kg.out Jh.out); have Sh := Lib.hid (sh.weaken (ok' := (· < wh.heap.size)) fun b hb => by have h1 := kh.size; have h2 := hb; subst hlh; first | omega | (rcases h2 with h2 | h2; exact Nat.lt_of_lt_of_le h2 h1; exact h2.2)); clear sh nh kh)
        | (go_simp; go_at_call 18; (with_reducible refine (CE8.out _ _ _ (by first | exact Sg.out _ Jh.out | exact (Sg.out _ Jh.out).frame fun _ _ _ => rfl) (by first | exact Sh.out | exact Sh.out.frame fun _ _ _ => rfl)).mono ?_); rintro e wi ⟨rfl, gi⟩; have Ki : Hid (Below wc.heap.size wc wi) := Lib.hid (by first | exact next0 Kh.out gi.1 | exact next0 Kh.out.drew gi.1 | exact next0 (below_drewN Kh.out _) gi.1); clear gi))
      all_goals
        go_wp2_with fail
        go_meet
        exact ⟨rfl, Ki⟩
    case rest =>
      obtain ⟨rfl, N9⟩ := hcut
      have D9 := Lib.hid (next0 D8.out N9.out)
      have RT9 := Lib.hid (fun w' (k : Below wc.heap.size wc w') => RT8.out w' (next0 N9.out k))
      have RS9 := Lib.hid (fun w' (k : Below wc.heap.size wc w') => RS8.out w' (next0 N9.out k))
      have AW9 := Lib.hid (fun w' (k : Below wc.heap.size wc w') => AW8.out w' (next0 N9.out k))
      have AS9 := Lib.hid (fun n hn w' (k : Below wc.heap.size wc w') => APs.out n hn w' (next0 N9.out k))
      have AT9 := Lib.hid (fun u hn hz w' (k : Below wc.heap.size wc w') => APt.out u hn hz w' (next0 N9.out k))
      clear RT8 RS8 AW8 APs APt VT8 VA8 VB8 TA8 TB8 CE8 HH8 y1 y2 y3 y4 y5 z1 z2 z3 z4 z5
      go_wp2_with fail
      go_loopw [11] (fun i wr => ∃ k : Nat, k ≤ sl + tl ∧ i = .int .i64 k ∧ Hid (Below wc.heap.size wc wr)) (fun i _ => sl + tl - (intOf i).toNat)
      case atStart => exact ⟨0, Nat.zero_le _, rfl, Lib.hid (Below.refl _ _)⟩
      case round =>
        obtain ⟨k, hk, rfl, hD⟩ := hrel
        by_cases hlt9 : k < sl + tl
        · obtain ⟨W1, hW1⟩ : ∃ W1, W1 = wr.alloc (.cells #[.string ⟨#[]⟩, .slice none 0 0] 27) := ⟨_, rfl⟩
          have K1 : Hid (Below wr.heap.size wr W1) := Lib.hid (by rw [hW1]; exact below_alloc _ _)
          have H1 : Hid (Has W1 wr.heap.size #[.string ⟨#[]⟩, .slice none 0 0]) := Lib.hid (by rw [hW1]; exact Has.new _ _ _)
          have hkl : ((k : Int) < (sl : Int) + (tl : Int)) := by omega
          go_upto_region 14 with fail
          rw [← hW1]
          clear hW1
          go_upto_if 89 with fail
          go_cut [] (fun wx => ∃ n : ByteArray, varB n = true ∧ n.size ≤ maxLen ∧ Hid (Has wx wr.heap.size #[.string n, .slice none 0 0]) ∧ Hid (Below wr.heap.size wr wx))
          case first =>
            obtain ⟨y1, y2, y3, y4, y5⟩ := H1.out.two
            by_cases hks : k < sl
            · obtain ⟨x, b, o, q, d, hx, rfl, hb, c1, c2, c3, c4, c5, c6⟩ := RS9.out W1 (next0 hD.out K1.out) k (by rw [HSL.out]; exact hks)
              have VX := Lib.hid (VS.out x (List.mem_of_getElem? hx))
              have NX := Lib.hid c6
              clear hx c2 c3 c4 c5 c6
              go_wp2_with fail
              go_meet
              exact ⟨x.1, VX.out, NX.out, Lib.hid (H1.out.set 0 _), Lib.hid (K1.out.setCell (Nat.le_refl _) _)⟩
            · obtain ⟨x, b, o, q, d, hx, rfl, hb, c1, c2, c3, c4, c5, c6⟩ := RT9.out W1 (next0 hD.out K1.out) (k - sl) (by rw [HTL.out]; omega)
              have VX := Lib.hid (VT9.out x (List.mem_of_getElem? hx))
              have NX := Lib.hid c6
              have hsub : ((k : Int) - (sl : Int)) = ((k - sl : Nat) : Int) := by omega
              have hlk : k - sl < tl := by omega
              clear hx c2 c3 c4 c5 c6
              generalize k - sl = j at *
              go_wp2_with fail
              go_meet
              exact ⟨x.1, VX.out, NX.out, Lib.hid (H1.out.set 0 _), Lib.hid (K1.out.setCell (Nat.le_refl _) _)⟩
          case rest =>
            obtain ⟨n, hnv, hns, HB, KB⟩ := hcut
            have BX := Lib.hid (fun w' (k : Below wc.heap.size wc w') => (HB.out.step0 k).two)
            have KC := Lib.hid (next0 hD.out KB.out)
            obtain ⟨e1, e2⟩ := ONE.out n hnv
            have A1 := Lib.hid (fun w' (k : Below wc.heap.size wc w') => show Calls Tryz.prog 21 #[.slice p6 sl c6, .agg #[.string n, .slice none 0 0]] w' (RApR w'.heap.size (appT s (.mk n [])) w') from AS9.out n hns w' (next0 KC.out k))
            have A2 := Lib.hid (fun w' (k : Below wc.heap.size wc w') => AT9.out (appT s (.mk n [])) (valid_nm e2) (by have := size_8 e2; omega) w' (next0 KC.out k))
            have A3 := Lib.hid (fun w' (k : Below wc.heap.size wc w') => show Calls Tryz.prog 21 #[.slice pt tl ct, .agg #[.string n, .slice none 0 0]] w' (RApR w'.heap.size (appT t (.mk n [])) w') from AT9.out (.mk n []) hns (by simp [sizeT, sizeL]) w' (next0 KC.out k) (.slice none 0 0) (SlIn.none _ _))
            have CTx := Lib.hid (fun q q' w' h h' => CT.out (appT t (.mk n [])) q q' w' h h')
            rw [e1] at A2
            unfold RApR at A1 A2 A3
            clear H1 K1 HB e1 e2 hnv hns AS9 AT9 ONE VS VT9 RT9 RS9 CT
            generalize appT s (.mk n []) = u1 at *
            generalize appT t (.mk n []) = u3 at *
            generalize u1.nm = u1n at *
            generalize u1.args.length = u1l at *
            generalize u3.nm = u3n at *
            generalize u3.args.length = u3l at *
            obtain ⟨y1, y2, y3, y4, y5⟩ := BX.out wc (Below.refl _ _)
            go_wp2_with fail
            go_region_law (first
              | (go_simp; go_at_call 21; (with_reducible refine (A1.out _ (by first | exact Below.refl _ _ | exact (Below.refl _ _).drew | exact below_drewN (Below.refl _ _) _)).mono ?_); rintro e wd ⟨qd, dd, rfl, sd, nd, kd⟩; have Kd : Hid (Below wc.heap.size wc wd) := Lib.hid (by first | exact next0 (Below.refl _ _) kd | exact next0 (Below.refl _ _).drew kd | exact next0 (below_drewN (Below.refl _ _) _) kd); have Sd := Lib.hid (fun w' (k : Below wd.heap.size wd w') => (((sd.weaken (ok' := (· < wd.heap.size)) (okz kd.size)).deep k (Nat.le_refl _)).weaken (ok' := (· < w'.heap.size)) fun b hb => Nat.lt_of_lt_of_le hb k.size)); clear sd nd kd y1 y2 y3 y4 y5; obtain ⟨y1, y2, y3, y4, y5⟩ := BX.out wd Kd.out)
              | (go_simp; go_at_call 21; (with_reducible refine (A2.out _ (by first | exact Kd.out | exact Kd.out.drew | exact below_drewN Kd.out _) _ (by first | exact Sd.out _ (Below.refl _ _) | exact Sd.out _ (Below.refl _ _).drew | exact Sd.out _ (below_drewN (Below.refl _ _) _))).mono ?_); rintro e we ⟨qe, de, rfl, se, ne, ke⟩; have Ke : Hid (Below wc.heap.size wc we) := Lib.hid (by first | exact next0 Kd.out ke | exact next0 Kd.out.drew ke | exact next0 (below_drewN Kd.out _) ke); have Se := Lib.hid (fun w' (k : Below we.heap.size we w') => (((se.weaken (ok' := (· < we.heap.size)) (okz ke.size)).deep k (Nat.le_refl _)).weaken (ok' := (· < w'.heap.size)) fun b hb => Nat.lt_of_lt_of_le hb k.size)); clear se ne ke y1 y2 y3 y4 y5; obtain ⟨y1, y2, y3, y4, y5⟩ := BX.out we Ke.out)
              | (go_simp; go_at_call 21; (with_reducible refine (A3.out _ (by first | exact Ke.out | exact Ke.out.drew | exact below_drewN Ke.out _)).mono ?_); rintro e wf ⟨qf, df, rfl, sf, nf, kf⟩; have Jf : Hid (Below we.heap.size we wf) := Lib.hid (by first | exact next0 (Below.refl _ _) kf | exact next0 (Below.refl _ _).drew kf | exact next0 (below_drewN (Below.refl _ _) _) kf); have Kf : Hid (Below wc.heap.size wc wf) := Lib.hid (next0 Ke.out Jf.out); have Sf := Lib.hid (fun w' (k : Below wf.heap.size wf w') => (((sf.weaken (ok' := (· < wf.heap.size)) (okz kf.size)).deep k (Nat.le_refl _)).weaken (ok' := (· < w'.heap.size)) fun b hb => Nat.lt_of_lt_of_le hb k.size)); clear sf nf kf y1 y2 y3 y4 y5; obtain ⟨y1, y2, y3, y4, y5⟩ := BX.out wf Kf.out)
              | (go_simp; go_at_call 18; (with_reducible refine (CTx.out _ _ _ (by first | exact Se.out _ Jf.out | exact Se.out _ Jf.out.drew | exact Se.out _ (below_drewN Jf.out _)) (by first | exact Sf.out _ (Below.refl _ _) | exact Sf.out _ (Below.refl _ _).drew | exact Sf.out _ (below_drewN (Below.refl _ _) _))).mono ?_); rintro e wg ⟨rfl, gg⟩; have Kg : Hid (Below wc.heap.size wc wg) := Lib.hid (by first | exact next0 Kf.out gg.1 | exact next0 Kf.out.drew gg.1 | exact next0 (below_drewN Kf.out _) gg.1); clear gg))
            all_goals
              go_wp2_with fail
              go_roundw
              case rel => exact ⟨k + 1, by omega, by go_num, Lib.hid (next0 KC.out Kg.out)⟩
              case measure => simp [intOf]; omega
        · obtain rfl : k = sl + tl := by omega
          have hkl : ¬ (((sl + tl : Nat) : Int) < (sl : Int) + (tl : Int)) := by omega
          go_wp2_with fail
          refine (AW9.out _ hD.out).mono ?_
          rintro e wz ⟨rfl, kz⟩
          have Dz := Lib.hid (next0 D9.out (next0 hD.out kz))
          go_wp2_with fail
          go_ret
          exact ⟨rfl, Dz.out⟩
end UnuN
end Go.Proofs.YtjfgnmmcdgpiiaaGreatDoor
