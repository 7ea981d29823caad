/- TermSorts' walk. -/
import Derived.Test.YtgfdplmilichiaaDoorTermL5
import Derived.Test.YtgfdplmilichiaaDoorTermFd
import Derived.Test.YtgfdplmilichiaaDoorTermEq
namespace Go.Proofs.YtgfdplmilichiaaDoor
open Go Go.RowKit
namespace TermL6
open LexM TermM TermI Kit TermN TermS TermP TermQ TermR TermL TermE TermF TermT TermG TermH TermW TermEq TermSo TermCo TermFd TermU
theorem b_more {W w : World} (h : Below W.heap.size W w) (o : Obj) : Below W.heap.size W (w.alloc o) := h.alloc h.size o
theorem size_of_each {l : List Tm} (h : ∀ t ∈ l, sizeT t ≤ 40) : sizeL l ≤ 40 * l.length := by
  induction l with
  | nil => simp [sizeL]
  | cons a r ih =>
    have e1 := h a (by simp)
    have e2 := ih (fun t ht => h t (by simp [ht]))
    simp only [sizeL, List.length_cons]
    omega
theorem few_each {l : List Tm} (h : (decide (l.length ≤ 40) && l.all fun t => decide (partsT 40 40 t ≤ 40)) = true) : l.length ≤ 40 ∧ ∀ t ∈ l, sizeT t ≤ 40 := by
  rw [Bool.and_eq_true, List.all_eq_true] at h
  exact ⟨of_decide_eq_true h.1, fun t ht => by
    have h3 := of_decide_eq_true (h.2 t ht)
    have h4 := (parts_size 40 40 t h3).1
    omega⟩
set_option maxRecDepth 100000 in
set_option maxHeartbeats 12800000 in
theorem sorts (l : List Tm) (t : Tm) (w : World) (v tv : Value) (hw : Wd w) (hs : t.nm.size ≤ maxLen) (h : SlIn (· < w.heap.size) w l v) (h' : SlIn (· < w.heap.size) w t.args tv) :
    Calls Tryd.prog 8 #[v, .agg #[.string t.nm, tv]] w fun e w' => e = .returned (.bool true) ∧ Below w.heap.size w w' := by
  have CA := Lib.hid (fun w' (q : Below w.heap.size w w') => awake_any w' (hw.below q hw.1))
  have F1 := Lib.hid (fun w' (q : Below w.heap.size w w') => (few_any l w.heap.size w' v q.size (h.deep q (Nat.le_refl _))).mono fun _ _ ⟨a, b⟩ => And.intro a b.1)
  have F2 := Lib.hid (fun w' (q : Below w.heap.size w w') => (small_any t w.heap.size w' tv q.size (h'.deep q (Nat.le_refl _))).mono fun _ _ ⟨a, b⟩ => And.intro a b.1)
  have SZ : Hid ((decide (l.length ≤ 40) && l.all fun t => decide (partsT 40 40 t ≤ 40)) = true → l.length ≤ 40 ∧ ∀ t ∈ l, sizeT t ≤ 40) := Lib.hid few_each
  have KS0 := Lib.hid (fun (hz : sizeL l ≤ 1000000) w' (q : Below w.heap.size w w') => sort_new l w.heap.size w' v q.size (h.deep q (Nat.le_refl _)) hz)
  have KR0 := Lib.hid (fun (hz : l.length ≤ 1000000) w' (q : Below w.heap.size w w') => rsort_any l w.heap.size w' v q.size (h.deep q (Nat.le_refl _)) hz)
  have HH := Lib.hid h
  have HH' := Lib.hid h'
  have HNM := Lib.hid hs
  obtain ⟨p, c, rfl, _, hc, hm, hRow⟩ := h.row
  obtain ⟨pt, ct, rfl⟩ := h'.form
  have HR := Lib.hid hRow
  generalize (decide (l.length ≤ 40) && l.all fun t => decide (partsT 40 40 t ≤ 40)) = Sa at *
  generalize decide (partsT 40 40 t ≤ 40) = Sb at *
  generalize hlm : l.length = m at *
  have HM := Lib.hid hlm
  generalize htn : t.nm = tn at *
  have HTN := Lib.hid htn
  generalize hta : t.args.length = ta at *
  have HTA := Lib.hid hta
  obtain ⟨W1, hW1⟩ : ∃ W1, W1 = w.alloc (.cells #[.string tn, .slice pt ta ct] 28) := ⟨_, rfl⟩
  have B1 : Hid (Below w.heap.size w W1) := Lib.hid (by rw [hW1]; exact below_alloc w _)
  have H1 : Hid (Has W1 w.heap.size #[.string tn, .slice pt ta ct]) := Lib.hid (by rw [hW1]; exact Has.new _ _ _)
  clear h h' hs hlm htn hta hRow hw hc hm
  go_enter Tryd.func8, Tryd.ntmps8
  go_upto_region 1 with fail
  rw [← hW1]
  clear hW1
  go_wp2_with fail
  refine (F1.out _ B1.out).mono ?_
  rintro e w2 ⟨rfl, k⟩
  have G2 := Lib.hid (next0 B1.out k)
  have H2 := Lib.hid (H1.out.step0 k)
  clear k
  cases Sa
  · go_wp2_with fail
    refine (CA.out _ G2.out).mono ?_
    rintro e w4 ⟨rfl, k⟩
    have D := Lib.hid (next0 G2.out k)
    clear k
    go_wp2_with fail
    go_ret
    exact ⟨rfl, D.out⟩
  obtain ⟨x1, x2, _⟩ := H2.out.two
  go_wp2_with fail
  refine (F2.out _ G2.out).mono ?_
  rintro e w3 ⟨rfl, k⟩
  have G3 := Lib.hid (next0 G2.out k)
  have H3 := Lib.hid (H2.out.step0 k)
  clear k x1 x2
  cases Sb
  · go_wp2_with fail
    refine (CA.out _ G3.out).mono ?_
    rintro e w4 ⟨rfl, k⟩
    have D := Lib.hid (next0 G3.out k)
    clear k
    go_wp2_with fail
    go_ret
    exact ⟨rfl, D.out⟩
  obtain ⟨hm40, heach⟩ := SZ.out (by simp)
  have HE := Lib.hid heach
  have hz0 : sizeL l ≤ 1000000 := by have h1 := size_of_each heach; have h2 := HM.out; omega
  have KS := Lib.hid (KS0.out hz0)
  have KR := Lib.hid (KR0.out (by omega))
  clear SZ F1 F2 KS0 KR0 heach hz0 H1 H2 G2 B1
  go_wp2_with fail
  refine (KS.out _ G3.out).mono ?_
  rintro e W2 ⟨v3, s, rfl, hA, hMm, hS, hd3⟩
  have S2 := hS.weaken (ok' := (· < W2.heap.size)) (fun b hb => hb.2)
  have G4 := Lib.hid (next0 G3.out hd3)
  have H4 := Lib.hid (H3.out.step0 hd3)
  have hsl : s.length ≤ 40 := by have := asc_len hA hMm; have := HM.out; omega
  have hss : sizeL s ≤ 1600 := by have := size_of_each (l := s) (fun t ht => HE.out t ((hMm t).1 ht)); omega
  obtain ⟨p3, c3, rfl, _, _, _, hR3⟩ := S2.row
  have HR3 := Lib.hid hR3
  have HA := Lib.hid hA
  have HMM := Lib.hid hMm
  have HS2 := Lib.hid S2
  obtain ⟨R, hRt⟩ := at_ex hA t
  have KT : Hid (∀ w' q5 c5, Below W2.heap.size W2 w' → SlIn (· < w'.heap.size) w' s (.slice q5 s.length c5) → Calls Tryd.prog 40 #[.slice p3 s.length c3, .slice q5 s.length c5] w' fun e w'' => e = .returned (.bool true) ∧ Below w'.heap.size w' w'') := Lib.hid (fun w' q5 c5 g hs5 =>
    (terms_of s s (fun x _ => term_any x) true (by simp) w'.heap.size w' _ _ (Nat.le_refl _) ((HS2.out.deep g (Nat.le_refl _)).weaken (fun b hb => Nat.lt_of_lt_of_le hb g.size)) hs5).mono fun _ _ ⟨a, b⟩ => ⟨a, b.1⟩)
  have KTb : Hid (∀ w' q5 c5, Below W2.heap.size W2 w' → SlIn (· < w'.heap.size) w' s (.slice q5 s.length c5) → Calls Tryd.prog 40 #[.slice q5 s.length c5, .slice p3 s.length c3] w' fun e w'' => e = .returned (.bool true) ∧ Below w'.heap.size w' w'') := Lib.hid (fun w' q5 c5 g hs5 =>
    (terms_of s s (fun x _ => term_any x) true (by simp) w'.heap.size w' _ _ (Nat.le_refl _) hs5 ((HS2.out.deep g (Nat.le_refl _)).weaken (fun b hb => Nat.lt_of_lt_of_le hb g.size))).mono fun _ _ ⟨a, b⟩ => ⟨a, b.1⟩)
  have KRS : Hid (∀ w', Below W2.heap.size W2 w' → Calls Tryd.prog 41 #[.slice p m c] w' fun e w'' => ∃ q5 c5, e = .returned (.slice q5 s.length c5) ∧ SlIn (· < w''.heap.size) w'' s (.slice q5 s.length c5) ∧ Below w'.heap.size w' w'') := Lib.hid (fun w' g => by
    refine (KR.out w' (next0 G4.out g)).mono ?_
    rintro e w'' ⟨v5, l5, rfl, hP5, hM5, hS5, hd5⟩
    obtain rfl : s = l5 := asc_uniq _ _ HA.out (asc_of_pw hP5) (fun t => (HMM.out t).trans (hM5 t).symm)
    obtain ⟨q5, c5, rfl⟩ := hS5.form
    exact ⟨q5, c5, rfl, hS5, hd5⟩)
  have KSS : Hid (∀ w', Below W2.heap.size W2 w' → Calls Tryd.prog 39 #[.slice p3 s.length c3] w' fun e w'' => ∃ q5 c5, e = .returned (.slice q5 s.length c5) ∧ SlIn (· < w''.heap.size) w'' s (.slice q5 s.length c5) ∧ Below w'.heap.size w' w'') := Lib.hid (fun w' g => by
    refine (sort_new s W2.heap.size w' _ g.size (HS2.out.deep g (Nat.le_refl _)) (by omega)).mono ?_
    rintro e w'' ⟨v5, l5, rfl, hA5, hM5, hS5, hd5⟩
    obtain rfl : s = l5 := asc_uniq _ _ HA.out hA5 (fun t => (hM5 t).symm)
    obtain ⟨q5, c5, rfl⟩ := hS5.form
    exact ⟨q5, c5, rfl, hS5.weaken (fun b hb => hb.2), hd5⟩)
  have KF : Hid (∀ (x : Tm) (xv : Value) (R : Int), At s x R → x.nm.size ≤ maxLen → ∀ w', Below W2.heap.size W2 w' → SlIn (· < W2.heap.size) W2 x.args xv → Calls Tryd.prog 42 #[.slice p3 s.length c3, .agg #[.string x.nm, xv]] w' fun e w'' => e = .returned (.int .i64 R) ∧ Below w'.heap.size w' w'') := Lib.hid (fun x xv R hR hn w' g hx =>
    find_any s x HA.out R hR (by omega) W2.heap.size w' _ xv g.size hn (HS2.out.deep g (Nat.le_refl _)) (hx.deep g (Nat.le_refl _)))
  have KFt : Hid (∀ w', Below W2.heap.size W2 w' → Calls Tryd.prog 42 #[.slice p3 s.length c3, .agg #[.string tn, .slice pt ta ct]] w' fun e w'' => e = .returned (.int .i64 R) ∧ Below w'.heap.size w' w'') := Lib.hid (fun w' g => by
    have := KF.out t (.slice pt ta ct) R hRt (by rw [HTN.out]; exact HNM.out) w' g ((HH'.out.deep G4.out (Nat.le_refl _)).weaken (fun b hb => Nat.lt_of_lt_of_le hb G4.out.size))
    rw [HTN.out] at this
    exact this)
  have KGt : Hid (∀ w', Below W2.heap.size W2 w' → Calls Tryd.prog 43 #[.slice p3 s.length c3, .agg #[.string tn, .slice pt ta ct]] w' fun e w'' => e = .returned (.int .i64 R) ∧ Below w'.heap.size w' w'') := Lib.hid (fun w' g => by
    have := TermFi.rfind_any s t R (fun k x hx _ hz => hRt.1 k x hx hz) (fun hn => hRt.2.1 (fun j y hy => hn j y (List.getElem?_eq_some_iff.1 hy).1 hy)) W2.heap.size w' _ (.slice pt ta ct) g.size (by rw [HTN.out]; exact HNM.out) (HS2.out.deep g (Nat.le_refl _)) ((HH'.out.deep (next0 G4.out g) (Nat.le_refl _)).weaken (fun b hb => Nat.lt_of_lt_of_le hb G4.out.size))
    rw [HTN.out] at this
    exact this.mono fun _ _ ⟨a, b⟩ => ⟨a, b.1⟩)
  have AK : Hid (∀ (k : Nat) x, s[k]? = some x → At s x (k : Int)) := Lib.hid (fun k x hx => by
    obtain ⟨R', hR'⟩ := at_ex hA x
    have e := hR'.1 k x hx ((cmp_zero x x).2 rfl)
    rwa [e] at hR')
  have AM1 : Hid (∀ (k : Nat) x y, 0 < k → s[k - 1]? = some y → s[k]? = some x → cmpT y x = -1) := Lib.hid (fun k x y hk hy hx => by
    have h1 := hA (k - 1) k y x (by omega) hy hx
    have h2 := cmp_rng y x
    omega)
  have AL : Hid (∀ x ∈ l, ∃ R' : Int, At s x R' ∧ 0 ≤ R') := Lib.hid (fun x hx => by
    obtain ⟨R', hR'⟩ := at_ex hA x
    exact ⟨R', hR', hR'.2.2 ((hMm x).2 hx)⟩)
  have hRR : (R != R) = false := by simp
  have htb : w.heap.size < W2.heap.size := H4.out.lt
  obtain ⟨x1, x2, _⟩ := H4.out.two
  clear hA hMm hS hd3 S2 hR3 hRt KS KR H3 G3
  generalize hn : s.length = n at *
  have HN := Lib.hid hn
  clear hn
  have CA2 : Hid (∀ w', Below W2.heap.size W2 w' → Calls Tryd.prog 10 #[] w' fun e w'' => e = .returned (.bool true) ∧ Below w'.heap.size w' w'') := Lib.hid (fun w' g => CA.out w' (next0 G4.out g))
  clear CA
  go_upto_region 4 with fail
  go_cut [32] (fun s32 wx => s32 = .bool false ∧ Hid (Below W2.heap.size W2 wx))
  case first =>
    have Hb : Hid (∀ w', Below W2.heap.size W2 w' → w'.cell? ⟨w.heap.size, 0, none⟩ = some (.string tn) ∧ w'.cell? ⟨w.heap.size, 1, none⟩ = some (.slice pt ta ct) ∧ Hid (Below W2.heap.size W2 w') ∧ W2.heap.size ≤ w'.heap.size) := Lib.hid (fun w' g => ⟨(g.cell (p := ⟨w.heap.size, _, none⟩) htb).trans x1, (g.cell (p := ⟨w.heap.size, _, none⟩) htb).trans x2, Lib.hid g, g.size⟩)
    have hs0 := Hb.out _ (Below.refl _ _).drew
    clear KSS KTb AK AM1 AL HR3 HR HH HH' HE HMM HA HS2 HN HM HTN HTA HNM KF H4 G4 CA2 x1 x2
    go_region_held3 (fun w' => w'.cell? ⟨w.heap.size, 0, none⟩ = some (.string tn) ∧ w'.cell? ⟨w.heap.size, 1, none⟩ = some (.slice pt ta ct) ∧ Hid (Below W2.heap.size W2 w') ∧ W2.heap.size ≤ w'.heap.size)
      (first | (with_reducible assumption) | (with_reducible exact ⟨‹_›, ‹_›, ‹_›, ‹_›⟩) | (with_reducible refine Hb.out _ ?_; repeat (first | (with_reducible exact Hid.out (by assumption)) | (with_reducible exact Below.refl _ _) | (with_reducible refine Below.drew ?_) | (with_reducible refine b_more ?_ _))))
      (first | (go_at_call 41; (try go_split_ands); (with_reducible refine (KRS.out _ (by repeat (first | (with_reducible exact Hid.out (by assumption)) | (with_reducible exact Below.refl _ _) | (with_reducible refine Below.drew ?_) | (with_reducible refine b_more ?_ _)))).mono ?_); rintro e w' ⟨q5, c5, rfl, hs5, q0⟩; have HS5 := Lib.hid hs5; clear hs5; (have qg : Below W2.heap.size W2 w' := by (refine next0 ?_ q0; repeat (first | (with_reducible exact Hid.out (by assumption)) | (with_reducible exact Below.refl _ _) | (with_reducible refine Below.drew ?_) | (with_reducible refine b_more ?_ _)))); clear q0; obtain ⟨z1, z2, z3, z4⟩ := Hb.out _ qg) | (go_at_call 40; (try go_split_ands); (with_reducible refine (KT.out _ _ _ (by repeat (first | (with_reducible exact Hid.out (by assumption)) | (with_reducible exact Below.refl _ _) | (with_reducible refine Below.drew ?_) | (with_reducible refine b_more ?_ _))) (by first | exact HS5.out | exact HS5.out.deep (Below.refl _ _).drew (Nat.le_refl _))).mono ?_); rintro e w' ⟨rfl, q0⟩; (have qg : Below W2.heap.size W2 w' := by (refine next0 ?_ q0; repeat (first | (with_reducible exact Hid.out (by assumption)) | (with_reducible exact Below.refl _ _) | (with_reducible refine Below.drew ?_) | (with_reducible refine b_more ?_ _)))); clear q0; obtain ⟨z1, z2, z3, z4⟩ := Hb.out _ qg) | (go_at_call 42; (try go_split_ands); (with_reducible refine (KFt.out _ (by repeat (first | (with_reducible exact Hid.out (by assumption)) | (with_reducible exact Below.refl _ _) | (with_reducible refine Below.drew ?_) | (with_reducible refine b_more ?_ _)))).mono ?_); rintro e w' ⟨rfl, q0⟩; (have qg : Below W2.heap.size W2 w' := by (refine next0 ?_ q0; repeat (first | (with_reducible exact Hid.out (by assumption)) | (with_reducible exact Below.refl _ _) | (with_reducible refine Below.drew ?_) | (with_reducible refine b_more ?_ _)))); clear q0; obtain ⟨z1, z2, z3, z4⟩ := Hb.out _ qg) | (go_at_call 43; (try go_split_ands); (with_reducible refine (KGt.out _ (by repeat (first | (with_reducible exact Hid.out (by assumption)) | (with_reducible exact Below.refl _ _) | (with_reducible refine Below.drew ?_) | (with_reducible refine b_more ?_ _)))).mono ?_); rintro e w' ⟨rfl, q0⟩; (have qg : Below W2.heap.size W2 w' := by (refine next0 ?_ q0; repeat (first | (with_reducible exact Hid.out (by assumption)) | (with_reducible exact Below.refl _ _) | (with_reducible refine Below.drew ?_) | (with_reducible refine b_more ?_ _)))); clear q0; obtain ⟨z1, z2, z3, z4⟩ := Hb.out _ qg))
    all_goals
      go_wp2_with fail
      go_meet
      exact ⟨rfl, Lib.hid qg⟩
  case rest =>
    obtain ⟨rfl, hq⟩ := hcut
    clear KRS KT KGt KFt hRR x1 x2
    go_wp2_with fail
    go_loopw [35] (fun i wr => ∃ k : Nat, k ≤ n ∧ i = .int .i64 k ∧ Hid (Below W2.heap.size W2 wr)) (fun i _ => n - (intOf i).toNat)
    case atStart => exact ⟨0, Nat.zero_le _, rfl, hq⟩
    case round =>
      obtain ⟨k, hk, rfl, hg⟩ := hrel
      by_cases hlt : k < n
      · obtain ⟨x, b, o, q, d, hx, rfl, hb, c1, c2, hxs, hxn⟩ := HR3.out k (by rw [HN.out]; exact hlt)
        have KFk := Lib.hid (fun w' (g : Below W2.heap.size W2 w') => KF.out x (.slice q x.args.length d) k (AK.out k x hx) hxn w' g hxs)
        by_cases hk0 : k = 0
        · subst hk0
          simp only [Nat.zero_mul, Nat.add_zero] at c1 c2
          generalize x.nm = xn at *
          generalize x.args.length = xa at *
          go_upto_region 9 with fail
          go_cut [62] (fun s62 wx => s62 = .bool false ∧ Hid (Below W2.heap.size W2 wx))
          case first =>
            have Hb : Hid (∀ w', Below W2.heap.size W2 w' → w'.cell? ⟨b, o, none⟩ = some (.string xn) ∧ w'.cell? ⟨b, o + 1, none⟩ = some (.slice q xa d) ∧ Hid (Below W2.heap.size W2 w') ∧ W2.heap.size ≤ w'.heap.size) := Lib.hid (fun w' g => ⟨(g.cell (p := ⟨b, _, none⟩) hb).trans c1, (g.cell (p := ⟨b, _, none⟩) hb).trans c2, Lib.hid g, g.size⟩)
            have hs0 := Hb.out _ hg.out.drew
            clear KSS KTb AK AM1 AL HR3 HR HH HH' HE HMM HA HS2 HN HM HTN HTA HNM KF H4 G4 CA2 c1 c2 hxs hx
            refine wp_region_held_drew (S := (fun w' => w'.cell? ⟨b, o, none⟩ = some (.string xn) ∧ w'.cell? ⟨b, o + 1, none⟩ = some (.slice q xa d) ∧ Hid (Below W2.heap.size W2 w') ∧ W2.heap.size ≤ w'.heap.size)) (by kernel_rfl) hs0 (fun hHeld => ?_)
            refine wpAnyH_take (i := 0) (v := ?_) rfl (by kernel_rfl) (by kernel_rfl) (by kernel_rfl) (fun _ _ _ h => h) (Or.inl ⟨by rfl, ?_⟩) (by assumption) ?_
            rotate_left
            · intro w' hSw; (try dsimp only at hSw); (try simp only [List.getElem_toArray, List.getElem_cons_zero]); go_simp; try with_reducible rfl
            (try simp only [List.getElem_toArray, List.getElem_cons_zero, Act.put, List.setIfInBounds_toArray, List.set_cons_zero, List.set_cons_succ])
            refine wpAnyH_take (i := 1) (v := ?_) rfl (by kernel_rfl) (by kernel_rfl) (by kernel_rfl) (fun _ _ _ h => h) (Or.inl ⟨by rfl, ?_⟩) (by assumption) ?_
            rotate_left
            · intro w' hSw; (try dsimp only at hSw); (try simp only [List.getElem_toArray, List.getElem_cons_zero, List.getElem_cons_succ]); go_simp; try with_reducible rfl
            (try simp only [List.getElem_toArray, List.getElem_cons_zero, List.getElem_cons_succ, Act.put, List.setIfInBounds_toArray, List.set_cons_zero, List.set_cons_succ])
            refine wpAnyH_take (i := 2) (v := ?_) rfl (by kernel_rfl) (by kernel_rfl) (by kernel_rfl) (fun _ _ _ h => h) (Or.inl ⟨by rfl, ?_⟩) (by assumption) ?_
            rotate_left
            · intro w' hSw; (try dsimp only at hSw); (try simp only [List.getElem_toArray, List.getElem_cons_zero, List.getElem_cons_succ]); go_simp; try with_reducible rfl
            (try simp only [List.getElem_toArray, List.getElem_cons_zero, List.getElem_cons_succ, Act.put, List.setIfInBounds_toArray, List.set_cons_zero, List.set_cons_succ])
            refine wpAnyH_take (i := 3) (v := ?_) rfl (by kernel_rfl) (by kernel_rfl) (by kernel_rfl) (fun _ _ _ h => h) (Or.inl ⟨by rfl, ?_⟩) (by assumption) ?_
            rotate_left
            · intro w' hSw; (try dsimp only at hSw); (try simp only [List.getElem_toArray, List.getElem_cons_zero, List.getElem_cons_succ]); go_simp; try with_reducible rfl
            (try simp only [List.getElem_toArray, List.getElem_cons_zero, List.getElem_cons_succ, Act.put, List.setIfInBounds_toArray, List.set_cons_zero, List.set_cons_succ])
            refine wpAnyH_take (i := 4) (v := ?_) rfl (by kernel_rfl) (by kernel_rfl) (by kernel_rfl) (fun _ _ _ h => h) (Or.inl ⟨by rfl, ?_⟩) (by assumption) ?_
            rotate_left
            · intro w' hSw; (try dsimp only at hSw); (try simp only [List.getElem_toArray, List.getElem_cons_zero, List.getElem_cons_succ]); go_simp; try with_reducible rfl
            (try simp only [List.getElem_toArray, List.getElem_cons_zero, List.getElem_cons_succ, Act.put, List.setIfInBounds_toArray, List.set_cons_zero, List.set_cons_succ])
            refine wpAnyH_take (i := 6) (v := ?_) rfl (by kernel_rfl) (by kernel_rfl) (by kernel_rfl) (fun _ _ _ h => h) (Or.inl ⟨by rfl, ?_⟩) (by assumption) ?_
            rotate_left
            · intro w' hSw; (try dsimp only at hSw); (try simp only [List.getElem_toArray, List.getElem_cons_zero, List.getElem_cons_succ]); go_simp; try with_reducible rfl
            (try simp only [List.getElem_toArray, List.getElem_cons_zero, List.getElem_cons_succ, Act.put, List.setIfInBounds_toArray, List.set_cons_zero, List.set_cons_succ])
            refine wpAnyH_ready (rs := [5]) (by kernel_rfl) (by simp) ?_
            refine AllReadyH.cons rfl (fun K hK => ?_) AllReadyH.nil
            go_simp
            go_split_ands
            (with_reducible refine (KFk.out _ (by repeat (first | (with_reducible exact Hid.out (by assumption)) | (with_reducible exact Below.refl _ _) | (with_reducible refine Below.drew ?_) | (with_reducible refine b_more ?_ _)))).mono ?_)
            rintro e w' ⟨rfl, q0⟩
            have qg : Below W2.heap.size W2 w' := by (refine next0 ?_ q0; repeat (first | (with_reducible exact Hid.out (by assumption)) | (with_reducible exact Below.refl _ _) | (with_reducible refine Below.drew ?_) | (with_reducible refine b_more ?_ _)))
            clear q0
            obtain ⟨z1, z2, z3, z4⟩ := Hb.out _ qg
            refine hK.out _ _ ⟨z1, z2, z3, z4⟩ (fun hHeld => ?_)
            clear hK K
            (try simp only [List.getElem_toArray, List.getElem_cons_zero, List.getElem_cons_succ, Act.put, List.setIfInBounds_toArray, List.set_cons_zero, List.set_cons_succ])
            refine wpAnyH_take (i := 7) (v := ?_) rfl (by kernel_rfl) (by kernel_rfl) (by kernel_rfl) (fun _ _ _ h => h) (Or.inl ⟨by rfl, ?_⟩) (by assumption) ?_
            rotate_left
            · intro w' hSw; (try dsimp only at hSw); (try simp only [List.getElem_toArray, List.getElem_cons_zero, List.getElem_cons_succ]); go_simp; try with_reducible rfl
            (try simp only [List.getElem_toArray, List.getElem_cons_zero, List.getElem_cons_succ, Act.put, List.setIfInBounds_toArray, List.set_cons_zero, List.set_cons_succ])
            refine wpAnyH_take (i := 8) (v := ?_) rfl (by kernel_rfl) (by kernel_rfl) (by kernel_rfl) (fun _ _ _ h => h) (Or.inl ⟨by rfl, ?_⟩) (by assumption) ?_
            rotate_left
            · intro w' hSw; (try dsimp only at hSw); (try simp only [List.getElem_toArray, List.getElem_cons_zero, List.getElem_cons_succ]); go_simp; try with_reducible rfl
            (try simp only [List.getElem_toArray, List.getElem_cons_zero, List.getElem_cons_succ, Act.put, List.setIfInBounds_toArray, List.set_cons_zero, List.set_cons_succ])
            refine wpAnyH_take (i := 9) (v := ?_) rfl (by kernel_rfl) (by kernel_rfl) (by kernel_rfl) (fun _ _ _ h => h) (Or.inl ⟨by rfl, ?_⟩) (by assumption) ?_
            rotate_left
            · intro w' hSw; (try dsimp only at hSw); (try simp only [List.getElem_toArray, List.getElem_cons_zero, List.getElem_cons_succ]); go_simp; try with_reducible rfl
            (try simp only [List.getElem_toArray, List.getElem_cons_zero, List.getElem_cons_succ, Act.put, List.setIfInBounds_toArray, List.set_cons_zero, List.set_cons_succ])
            refine wpAnyH_take (i := 10) (v := ?_) rfl (by kernel_rfl) (by kernel_rfl) (by kernel_rfl) (fun _ _ _ h => h) (Or.inl ⟨by rfl, ?_⟩) (by assumption) ?_
            rotate_left
            · intro w' hSw; (try dsimp only at hSw); (try simp only [List.getElem_toArray, List.getElem_cons_zero, List.getElem_cons_succ]); go_simp; try with_reducible rfl
            (try simp only [List.getElem_toArray, List.getElem_cons_zero, List.getElem_cons_succ, Act.put, List.setIfInBounds_toArray, List.set_cons_zero, List.set_cons_succ])
            refine wpAnyH_take (i := 11) (v := ?_) rfl (by kernel_rfl) (by kernel_rfl) (by kernel_rfl) (fun _ _ _ h => h) (Or.inl ⟨by rfl, ?_⟩) (by assumption) ?_
            rotate_left
            · intro w' hSw; (try dsimp only at hSw); (try simp only [List.getElem_toArray, List.getElem_cons_zero, List.getElem_cons_succ]); go_simp; try with_reducible rfl
            (try simp only [List.getElem_toArray, List.getElem_cons_zero, List.getElem_cons_succ, Act.put, List.setIfInBounds_toArray, List.set_cons_zero, List.set_cons_succ])
            refine wpAnyH_take (i := 12) (v := undef) rfl (by kernel_rfl) (by kernel_rfl) (by kernel_rfl) (fun _ _ _ h => h) (Or.inr ⟨by rfl, rfl⟩) (by assumption) ?_
            (try simp only [List.getElem_toArray, List.getElem_cons_zero, List.getElem_cons_succ, Act.put, List.setIfInBounds_toArray, List.set_cons_zero, List.set_cons_succ])
            refine wpAnyH_take (i := 13) (v := undef) rfl (by kernel_rfl) (by kernel_rfl) (by kernel_rfl) (fun _ _ _ h => h) (Or.inr ⟨by rfl, rfl⟩) (by assumption) ?_
            (try simp only [List.getElem_toArray, List.getElem_cons_zero, List.getElem_cons_succ, Act.put, List.setIfInBounds_toArray, List.set_cons_zero, List.set_cons_succ])
            refine wpAnyH_take (i := 14) (v := undef) rfl (by kernel_rfl) (by kernel_rfl) (by kernel_rfl) (fun _ _ _ h => h) (Or.inr ⟨by rfl, rfl⟩) (by assumption) ?_
            (try simp only [List.getElem_toArray, List.getElem_cons_zero, List.getElem_cons_succ, Act.put, List.setIfInBounds_toArray, List.set_cons_zero, List.set_cons_succ])
            refine wpAnyH_take (i := 15) (v := undef) rfl (by kernel_rfl) (by kernel_rfl) (by kernel_rfl) (fun _ _ _ h => h) (Or.inr ⟨by rfl, rfl⟩) (by assumption) ?_
            (try simp only [List.getElem_toArray, List.getElem_cons_zero, List.getElem_cons_succ, Act.put, List.setIfInBounds_toArray, List.set_cons_zero, List.set_cons_succ])
            refine wpAnyH_take (i := 16) (v := undef) rfl (by kernel_rfl) (by kernel_rfl) (by kernel_rfl) (fun _ _ _ h => h) (Or.inr ⟨by rfl, rfl⟩) (by assumption) ?_
            (try simp only [List.getElem_toArray, List.getElem_cons_zero, List.getElem_cons_succ, Act.put, List.setIfInBounds_toArray, List.set_cons_zero, List.set_cons_succ])
            refine wpAnyH_take (i := 17) (v := undef) rfl (by kernel_rfl) (by kernel_rfl) (by kernel_rfl) (fun _ _ _ h => h) (Or.inr ⟨by rfl, rfl⟩) (by assumption) ?_
            (try simp only [List.getElem_toArray, List.getElem_cons_zero, List.getElem_cons_succ, Act.put, List.setIfInBounds_toArray, List.set_cons_zero, List.set_cons_succ])
            refine wpAnyH_take (i := 18) (v := undef) rfl (by kernel_rfl) (by kernel_rfl) (by kernel_rfl) (fun _ _ _ h => h) (Or.inr ⟨by rfl, rfl⟩) (by assumption) ?_
            (try simp only [List.getElem_toArray, List.getElem_cons_zero, List.getElem_cons_succ, Act.put, List.setIfInBounds_toArray, List.set_cons_zero, List.set_cons_succ])
            refine wpAnyH_take (i := 19) (v := undef) rfl (by kernel_rfl) (by kernel_rfl) (by kernel_rfl) (fun _ _ _ h => h) (Or.inr ⟨by rfl, rfl⟩) (by assumption) ?_
            (try simp only [List.getElem_toArray, List.getElem_cons_zero, List.getElem_cons_succ, Act.put, List.setIfInBounds_toArray, List.set_cons_zero, List.set_cons_succ])
            refine wpAnyH_take (i := 20) (v := undef) rfl (by kernel_rfl) (by kernel_rfl) (by kernel_rfl) (fun _ _ _ h => h) (Or.inr ⟨by rfl, rfl⟩) (by assumption) ?_
            (try simp only [List.getElem_toArray, List.getElem_cons_zero, List.getElem_cons_succ, Act.put, List.setIfInBounds_toArray, List.set_cons_zero, List.set_cons_succ])
            first
              | (refine wpAnyH_take (i := 21) (v := undef) rfl (by kernel_rfl) (by kernel_rfl) (by kernel_rfl) (fun _ _ _ h => h) (Or.inr ⟨by rfl, rfl⟩) (by assumption) ?_)
              | (refine wpAnyH_ready (rs := [21]) (by kernel_rfl) (by simp) ?_; refine AllReadyH.cons rfl (fun K hK => ?_) AllReadyH.nil; rw [if_neg (by decide)]; refine hK.out _ _ (by assumption) (fun hHeld => ?_); clear hK K)
            (try simp only [List.getElem_toArray, List.getElem_cons_zero, List.getElem_cons_succ, Act.put, List.setIfInBounds_toArray, List.set_cons_zero, List.set_cons_succ])
            refine wpAnyH_take (i := 22) (v := undef) rfl (by kernel_rfl) (by kernel_rfl) (by kernel_rfl) (fun _ _ _ h => h) (Or.inr ⟨by rfl, rfl⟩) (by assumption) ?_
            (try simp only [List.getElem_toArray, List.getElem_cons_zero, List.getElem_cons_succ, Act.put, List.setIfInBounds_toArray, List.set_cons_zero, List.set_cons_succ])
            refine wpAnyH_take (i := 23) (v := ?_) rfl (by kernel_rfl) (by kernel_rfl) (by kernel_rfl) (fun _ _ _ h => h) (Or.inl ⟨by rfl, ?_⟩) (by assumption) ?_
            rotate_left
            · intro w' hSw; (try dsimp only at hSw); (try simp only [List.getElem_toArray, List.getElem_cons_zero, List.getElem_cons_succ]); go_simp; try with_reducible rfl
            (try simp only [List.getElem_toArray, List.getElem_cons_zero, List.getElem_cons_succ, Act.put, List.setIfInBounds_toArray, List.set_cons_zero, List.set_cons_succ])
            refine wpAnyH_take (i := 24) (v := ?_) rfl (by kernel_rfl) (by kernel_rfl) (by kernel_rfl) (fun _ _ _ h => h) (Or.inl ⟨by rfl, ?_⟩) (by assumption) ?_
            rotate_left
            · intro w' hSw; (try dsimp only at hSw); (try simp only [List.getElem_toArray, List.getElem_cons_zero, List.getElem_cons_succ]); go_simp; try with_reducible rfl
            (try simp only [List.getElem_toArray, List.getElem_cons_zero, List.getElem_cons_succ, Act.put, List.setIfInBounds_toArray, List.set_cons_zero, List.set_cons_succ])
            refine wpAnyH_done (by kernel_rfl) ?_ _
            go_wp2_with fail
            go_meet
            exact ⟨rfl, Lib.hid qg⟩
          case rest =>
            obtain ⟨rfl, hq2⟩ := hcut
            go_wp2_with fail
            go_roundw
            case rel => exact ⟨0 + 1, by omega, by go_num, hq2⟩
            case measure => simp [intOf]; omega
        · obtain ⟨y, b', o', yq, yd, hy, e', hb', d1, d2, hys, hyn⟩ := HR3.out (k - 1) (by rw [HN.out]; omega)
          injection e' with e'
          injection e' with e1 e2
          subst e1 e2
          have hcm := AM1.out k x y (by omega) hy hx
          have KC := Lib.hid (fun w' (g : Below W2.heap.size W2 w') => ((cmp_any y W2.heap.size w' (.slice yq y.args.length yd) x (.slice q x.args.length d) g.size hyn hxn (hys.deep g (Nat.le_refl _)) (hxs.deep g (Nat.le_refl _))).mono fun _ _ ⟨a, b⟩ => And.intro a b.1))
          rw [hcm] at KC
          have Hb : Hid (∀ w', Below W2.heap.size W2 w' → w'.cell? ⟨b, o + k * 2, none⟩ = some (.string x.nm) ∧ w'.cell? ⟨b, o + k * 2 + 1, none⟩ = some (.slice q x.args.length d) ∧ w'.cell? ⟨b, o + (k - 1) * 2, none⟩ = some (.string y.nm) ∧ w'.cell? ⟨b, o + (k - 1) * 2 + 1, none⟩ = some (.slice yq y.args.length yd) ∧ Hid (Below W2.heap.size W2 w') ∧ W2.heap.size ≤ w'.heap.size) := Lib.hid (fun w' g => ⟨(g.cell (p := ⟨b, _, none⟩) hb).trans c1, (g.cell (p := ⟨b, _, none⟩) hb).trans c2, (g.cell (p := ⟨b, _, none⟩) hb).trans d1, (g.cell (p := ⟨b, _, none⟩) hb).trans d2, Lib.hid g, g.size⟩)
          have i1 : (0 : Int) ≤ (k : Int) - 1 := by omega
          have i2 : ((k : Int) - 1).toNat = k - 1 := by omega
          have i3 : (k : Int) - 1 < n := by omega
          have i6 : 0 < k := by omega
          have i7 : (1 : Int) ≤ (k : Int) := by omega
          have i8 : 1 ≤ k := by omega
          have i9 : (k : Int) ≤ (n : Int) := by omega
          have i4 : decide (0 < k) = true := by simp; omega
          have i5 : IntKind.i64.wrap ((k : Int) - 1) = (k : Int) - 1 := IntWalk.i64_in _ (by omega)
          clear hxs hys hxn hyn hcm hx hy c1 c2 d1 d2
          generalize x.nm = xn at *
          generalize x.args.length = xa at *
          generalize y.nm = yn at *
          generalize y.args.length = ya at *
          go_upto_region 9 with fail
          go_cut [62] (fun s62 wx => s62 = .bool false ∧ Hid (Below W2.heap.size W2 wx))
          case first =>
            have hs0 := Hb.out _ hg.out.drew
            clear KSS KTb AK AM1 AL HR3 HR HH HH' HE HMM HA HS2 HN HM HTN HTA HNM KF H4 G4 CA2
            go_region_held3 (fun w' => w'.cell? ⟨b, o + k * 2, none⟩ = some (.string xn) ∧ w'.cell? ⟨b, o + k * 2 + 1, none⟩ = some (.slice q xa d) ∧ w'.cell? ⟨b, o + (k - 1) * 2, none⟩ = some (.string yn) ∧ w'.cell? ⟨b, o + (k - 1) * 2 + 1, none⟩ = some (.slice yq ya yd) ∧ Hid (Below W2.heap.size W2 w') ∧ W2.heap.size ≤ w'.heap.size)
              (first | (with_reducible assumption) | (with_reducible exact ⟨‹_›, ‹_›, ‹_›, ‹_›, ‹_›, ‹_›⟩) | (with_reducible refine Hb.out _ ?_; repeat (first | (with_reducible exact Hid.out (by assumption)) | (with_reducible exact Below.refl _ _) | (with_reducible refine Below.drew ?_) | (with_reducible refine b_more ?_ _))))
              (first | (go_at_call 42; (try go_split_ands); (with_reducible refine (KFk.out _ (by repeat (first | (with_reducible exact Hid.out (by assumption)) | (with_reducible exact Below.refl _ _) | (with_reducible refine Below.drew ?_) | (with_reducible refine b_more ?_ _)))).mono ?_); rintro e w' ⟨rfl, q0⟩; (have qg : Below W2.heap.size W2 w' := by (refine next0 ?_ q0; repeat (first | (with_reducible exact Hid.out (by assumption)) | (with_reducible exact Below.refl _ _) | (with_reducible refine Below.drew ?_) | (with_reducible refine b_more ?_ _)))); clear q0; obtain ⟨z1, z2, z3, z4, z5, z6⟩ := Hb.out _ qg) | (go_at_call 36; (try go_split_ands); (with_reducible refine (KC.out _ (by repeat (first | (with_reducible exact Hid.out (by assumption)) | (with_reducible exact Below.refl _ _) | (with_reducible refine Below.drew ?_) | (with_reducible refine b_more ?_ _)))).mono ?_); rintro e w' ⟨rfl, q0⟩; (have qg : Below W2.heap.size W2 w' := by (refine next0 ?_ q0; repeat (first | (with_reducible exact Hid.out (by assumption)) | (with_reducible exact Below.refl _ _) | (with_reducible refine Below.drew ?_) | (with_reducible refine b_more ?_ _)))); clear q0; obtain ⟨z1, z2, z3, z4, z5, z6⟩ := Hb.out _ qg))
            all_goals
              go_wp2_with fail
              go_meet
              exact ⟨rfl, Lib.hid qg⟩
          case rest =>
            obtain ⟨rfl, hq2⟩ := hcut
            clear i1 i2 i3 i4 i5 i6 i7 i8 i9
            go_wp2_with fail
            go_roundw
            case rel => exact ⟨k + 1, by omega, by go_num, hq2⟩
            case measure => simp [intOf]; omega
      · obtain rfl : k = n := by omega
        clear AK AM1
        go_wp2_with fail
        go_loopw [66] (fun i wr => ∃ j : Nat, j ≤ m ∧ i = .int .i64 j ∧ Hid (Below W2.heap.size W2 wr)) (fun i _ => m - (intOf i).toNat)
        case atStart => exact ⟨0, Nat.zero_le _, rfl, hg⟩
        case round =>
          obtain ⟨j, hj, rfl, hg⟩ := hrel
          by_cases hlt : j < m
          · obtain ⟨x, b, o, q, d, hx, rfl, hb, c1, c2, hxs, hxn⟩ := (Row.deep HR.out (next0 G4.out hg.out) (Nat.le_refl _)) j (by rw [HM.out]; exact hlt)
            obtain ⟨R', hR', hR0⟩ := AL.out x (List.mem_of_getElem? hx)
            obtain ⟨x', b', o', q', d', hx', e', hb', c1', c2', hxs', hxn'⟩ := (Row.deep HR.out G4.out (Nat.le_refl _)) j (by rw [HM.out]; exact hlt)
            rw [hx] at hx'
            injection hx' with hx'
            subst hx'
            injection e' with e'
            injection e' with e1 e2
            subst e1 e2
            have e5 : some (Value.slice q x.args.length d) = some (Value.slice q' x.args.length d') := (c2.symm.trans (hg.out.cell (p := ⟨b, _, none⟩) (Nat.lt_of_lt_of_le hb G4.out.size))).trans c2'
            injection e5 with e5
            rw [← e5] at hxs'
            have KFk := Lib.hid (KF.out x (.slice q x.args.length d) R' hR' hxn wr hg.out (hxs'.weaken (fun b hb => Nat.lt_of_lt_of_le hb G4.out.size)))
            clear hxs hxs' c1' c2' e5 hR' hx
            generalize x.nm = xn at *
            generalize x.args.length = xa at *
            go_wp2_with fail
            refine KFk.out.mono ?_
            rintro e w5 ⟨rfl, k5⟩
            have G5 := Lib.hid (next0 hg.out k5)
            clear k5
            go_wp2_with fail
            go_roundw
            case rel => exact ⟨j + 1, by omega, by go_num, G5⟩
            case measure => simp [intOf]; omega
          · obtain rfl : j = m := by omega
            clear AL KF
            go_wp2_with fail
            refine (KSS.out _ hg.out).mono ?_
            rintro e w5 ⟨q5, c5, rfl, hs5, k5⟩
            have G5 := Lib.hid (next0 hg.out k5)
            have KT5 := Lib.hid (KTb.out w5 q5 c5 (next0 hg.out k5) hs5)
            clear k5 hs5
            go_wp2_with fail
            refine KT5.out.mono ?_
            rintro e w6 ⟨rfl, k6⟩
            have G6 := Lib.hid (next0 G5.out k6)
            clear k6
            go_wp2_with fail
            refine (CA2.out _ G6.out).mono ?_
            rintro e w7 ⟨rfl, k7⟩
            have D := Lib.hid (next0 G4.out (next0 G6.out k7))
            clear k7
            go_wp2_with fail
            go_ret
            exact ⟨rfl, D.out⟩
end TermL6
end Go.Proofs.YtgfdplmilichiaaDoor
