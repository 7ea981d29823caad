/- The walk of NormalRenamed. Conditions: the head's key is short where it is small; term.Text's table is laid. -/
import Derived.Test.YtikkaiiinkeobaaGreatDoorGBI
import Derived.Deep.RegionHeld3
import Derived.Deep.AppendLies
import Derived.Deep.DeepCutAuto
namespace Go.Proofs.YtikkaiiinkeobaaGreatDoor
open Go Go.RowKit
namespace NolJ
open Kit LexM TermM TermI TermN TermU TermT UniK UniM UnpP LigM LigU LigY SmrA UnqA UnqB UnrA UnrL NorM NorS NosQ NosF NosV NosH NosI NolA NolF
theorem own_formL {base n : Nat} {w : World} {v : Value} {cs : List Value} (h : w.ownsRow base KL.ty 3 v n cs) : ∃ a c, v = .slice a n c := by
  rcases h.2 with ⟨e, hz⟩ | ⟨g, cap, cur, e, _⟩
  · exact ⟨none, 0, by rw [e, hz]⟩
  · exact ⟨_, cap, e⟩
theorem row_mixL {base B : Nat} {w : World} {L : List (Lt × Value)} {v : Value} (h1 : w.ownsRow base KL.ty 3 v L.length (KL.flat L)) (hB : B ≤ w.heap.size) (h3 : ∀ x ∈ L, KL.inn (· < B) w x) : LIn (· < w.heap.size) w (L.map (·.1)) v := by
  have hl := h1.lt
  have h3' : ∀ x ∈ L, KL.inn (· < w.heap.size) w x := fun x hx => KL.wide (h3 x hx) fun b hk => Nat.lt_of_lt_of_le hk hB
  refine ⟨L, rfl, ?_⟩
  rcases h1.2 with ⟨e, hz⟩ | ⟨g, cap, cur, e, e2, e3, e4, e5, _⟩
  · exact ⟨none, 0, by rw [e, hz], by omega, Nat.zero_le _, h3', fun h => by omega⟩
  · subst e
    refine ⟨_, cap, rfl, e4, e5, h3', fun _ => ⟨g, 0, rfl, (hl g rfl).2, fun i x hx j u hu => ?_⟩⟩
    have hi := (List.getElem?_eq_some_iff.1 hx).1
    have hj := (List.getElem?_eq_some_iff.1 hu).1
    rw [KL.len] at hj
    rw [show 0 + i * 3 + j = i * 3 + j by omega]
    exact (h1.cellAt _ (by omega)).trans (flat_get L i x hx j u hu)
theorem lt_chain {ex ex' : Nat → Prop} {a b c : World} (h : Lt ex a b) (g : Lt ex' b c) (hx : ∀ i, ex' i → ex i ∨ a.heap.size ≤ i) : Lt ex a c :=
  ⟨g.os.trans h.os, g.tape.trans h.tape, g.output.trans h.output, Nat.le_trans h.size g.size, fun i hi hn => (g.block i (Nat.lt_of_lt_of_le hi h.size) (fun e => by rcases hx i e with e | e; exact hn e; omega)).trans (h.block i hi hn)⟩
theorem own_lt {base n : Nat} {ex : Nat → Prop} {w w' : World} {e : TypeId} {s : Nat} {v : Value} {xs : List Value} (h : w.ownsRow base e s v n xs) (g : Lt ex w w') (hx : ∀ k, v.ownBlock = some k → ¬ ex k) : w'.ownsRow base e s v n xs := by
  have hl := h.lt
  refine ⟨h.1, ?_⟩
  rcases h.2 with h | ⟨k, cap, cur, e1, e2, e3, e4⟩
  · exact Or.inl h
  · exact Or.inr ⟨k, cap, cur, e1, e2, (g.block k (hl k (by rw [e1]; rfl)).2 (hx k (by rw [e1]; rfl))).trans e3, e4⟩
theorem rem_nat2 (k d n : Nat) (hk : k ≤ 100) (hd : d ≤ 255)  : (IntKind.i64.wrap ((k : Int) + (IntKind.i64.wrap (d : Int)))).tmod n = (((k + d) % n : Nat) : Int) := by
  have e1 : IntKind.i64.wrap (d : Int) = d := by rw [IntKind.wrap_i64]; omega
  have e2 : IntKind.i64.wrap ((k : Int) + d) = ((k + d : Nat) : Int) := by rw [IntKind.wrap_i64]; omega
  rw [e1, e2, Int.tmod_eq_emod_of_nonneg (by omega), ← Int.natCast_emod]
theorem ats_small {r : Rl} (h : GR r) : sizeL (atsL r.1 r.2) ≤ 1000000 := by
  have gen : ∀ l : List Lt, (∀ x ∈ l, sizeT x.2 ≤ 20) → sizeL (l.map (·.2)) ≤ l.length * 20 := by
    intro l
    induction l with
    | nil => intro _; simp [sizeL]
    | cons a l ih =>
      intro h
      have h1 := h a (by simp)
      have h2 := ih fun x hx => h x (by simp [hx])
      simp only [List.map_cons, sizeL, List.length_cons]
      omega
  have h1 := gen r.2 h.2.2
  have h2 := h.1
  have h3 := h.2.1
  simp only [atsL, sizeL]
  omega
set_option maxRecDepth 100000 in
set_option maxHeartbeats 6400000 in
theorem renamed (N : Nat) (h4 : 4 ≤ N) (hN : (N + 3) * 4000000 ≤ 4611686018427387904) (r : Rl) (d : Nat) (hd : d ≤ 255) (w : World) (sa ta : Value) (hw : Wd w) (hn : r.1.nm.size ≤ maxLen) (ha : SlIn (· < w.heap.size) w r.1.args sa) (hl : LIn (· < w.heap.size) w r.2 ta) (hk : sizeT r.1 ≤ 20 → klen r.1 ≤ N) :
    Calls Tryz.prog 7 #[.agg #[.string r.1.nm, sa, ta], .int .u8 d] w fun e w' => e = .returned (.bool true) ∧ Below w.heap.size w w' := by
  obtain ⟨i0, hi0, hi1, hi2, hi3⟩ := info_parts Tryz.infoL
  obtain ⟨pa, ca, rfl⟩ := ha.form
  obtain ⟨qa, da, rfl⟩ := hl.form
  obtain ⟨W2, hW2⟩ : ∃ W2, W2 = w.alloc (.cells #[.string r.1.nm, .slice pa r.1.args.length ca, .slice qa r.2.length da] 27) := ⟨_, rfl⟩
  have G0 : Hid (Below w.heap.size w W2) := Lib.hid (by rw [hW2]; exact below_alloc w _)
  have Ha : Hid (Has W2 w.heap.size #[.string r.1.nm, .slice pa r.1.args.length ca, .slice qa r.2.length da]) := Lib.hid (by rw [hW2]; exact Has.new _ _ _)
  have QW := Lib.hid (fun w' (q : Below W2.heap.size W2 w') => G0.out.trans (q.mono G0.out.size))
  have CA := Lib.hid (fun w' (q : Below W2.heap.size W2 w') => NosY.awake_any w' (hw.below (QW.out w' q) hw.1))
  have HW := Lib.hid (fun w' (q : Below W2.heap.size W2 w') => hw.below (QW.out w' q) hw.1)
  obtain ⟨W4, hW4⟩ : ∃ W4, W4 = W2.alloc (.cells #[.string r.1.nm, .slice pa r.1.args.length ca, .slice qa r.2.length da] 27) := ⟨_, rfl⟩
  have J4 : Hid (Below W2.heap.size W2 W4) := Lib.hid (by rw [hW4]; exact below_alloc _ _)
  have SA := Lib.hid (fun w' (q : Below W2.heap.size W2 w') => (ha.deep (QW.out w' q) (Nat.le_refl _)))
  have LA := Lib.hid (fun w' (q : Below W2.heap.size W2 w') => (hl.keep (w' := w') fun b o hb => (QW.out w' q).cell (p := ⟨b, o, none⟩) hb))
  have CS := Lib.hid (small_any N h4 hN [r] W4 _ (rin_one (r := r) (g := W2.heap.size) (B := w.heap.size) (by rw [hW4]; exact Has.new _ _ _) (QW.out _ J4.out).size (SA.out _ J4.out) (LA.out _ J4.out) hn) (fun x hx => by obtain rfl := List.mem_singleton.1 hx; exact hk))
  unfold SmrQ at CS
  have RN := Lib.hid (fun w' (q : Below W2.heap.size W2 w') => rule_any r.1 r.2 w.heap.size w' _ _ (QW.out w' q).size (SA.out _ q) (LA.out _ q) hn)
  have er : (r.1, r.2) = r := rfl
  rw [er] at RN
  unfold NfR at RN
  obtain ⟨y, hy⟩ : ∃ y, y = renF r := ⟨_, rfl⟩
  have RE := Lib.hid (fun (h0 : codeN r = 0) (hg : GR r) w' (q : Below W2.heap.size W2 w') => show Calls Tryz.prog 25 #[.agg #[.string r.1.nm, .slice pa r.1.args.length ca, .slice qa r.2.length da], .string ⟨#[87]⟩] w' (RnX y.1 y.2 w') from by
    rw [hy]
    have h5 := (code_zero h0).2
    rw [← vsf_len] at h5
    exact rrename_yes r.1 r.2 ⟨#[87]⟩ w' _ _ ((SA.out _ q).weaken fun b hb => Nat.lt_of_lt_of_le hb (QW.out w' q).size) ((LA.out _ q).wide fun b hb => Nat.lt_of_lt_of_le hb (QW.out w' q).size) hn (by have := hg.2.1; omega) (ats_small hg) (by decide) (by unfold vsF at h5; omega) (fun k hk => nW_var k (by unfold vsF at h5; omega)))
  unfold RnX at RE
  have SM := Lib.hid (fun w' (q : Below W2.heap.size W2 w') (o : Rl) so lo (h1 : SlIn (· < w'.heap.size) w' o.1.args so) (h2 : LIn (· < w'.heap.size) w' o.2 lo) (h3 : o.1.nm.size ≤ maxLen) => same_any r o w'.heap.size w' _ _ so lo (HW.out w' q) (Nat.le_refl _) ((SA.out _ q).weaken fun b hb => Nat.lt_of_lt_of_le hb (QW.out w' q).size) ((LA.out _ q).wide fun b hb => Nat.lt_of_lt_of_le hb (QW.out w' q).size) hn h1 h2 h3)
  unfold EqR at SM
  have ON := Lib.hid (fun (o : Rl) (h0 : codeN r = 0) (ho : o.1 = y.1) (hb : ∀ z, z ∈ o.2 ↔ z ∈ y.2) (h8 : o.2.length ≤ 8) => other_nf (o := o) h0 (by rw [ho, hy]) (fun z => by rw [hb, hy]) h8)
  have Y8 := Lib.hid (fun (hg : GR r) => show y.2.length ≤ 8 from by rw [hy]; unfold renF atomsL; rw [List.length_map]; exact hg.2.1)
  clear ha hl hw hk hn er hy SA LA
  generalize hcr : codeN r = cr at *
  have HCR := Lib.hid hcr
  clear hcr
  have r8 := UnpP.has3 Ha.out
  generalize r.1.nm = na at *
  generalize r.1.args.length = la at *
  generalize r.2.length = ma at *
  obtain ⟨r1, r2, r3, r4, r5, r6, r7⟩ := r8
  go_enter Tryz.func7, Tryz.ntmps7
  go_upto_region 1 with fail
  rw [← hW2]
  clear hW2
  go_wp2_with fail
  rw [← hW4]
  clear hW4
  refine CS.out.mono ?_
  rintro e w3 ⟨B, rfl, hB0, k3⟩
  have D3 := Lib.hid (next0 J4.out k3)
  have H3 := Lib.hid (Ha.out.step0 D3.out)
  clear k3 CS r1 r2 r3 r4 r5 r6 r7
  cases B
  · clear hB0
    go_wp2_with fail
    refine (CA.out _ D3.out).mono ?_
    rintro e w4 ⟨rfl, k⟩
    have D := Lib.hid (QW.out _ (next0 D3.out k))
    clear k
    go_wp2_with fail
    go_ret
    exact ⟨rfl, D.out⟩
  have hg := Lib.hid ((hB0 (by first | rfl | trivial)).2 r (by simp))
  clear hB0
  obtain ⟨r1, r2, r3, r4, r5, r6, r7⟩ := UnpP.has3 H3.out
  go_wp2_with fail
  refine (RN.out _ D3.out).mono ?_
  rintro e w4 ⟨x, q4, d4, v4, rfl, hnf, hs4, hl4, hn4, k4⟩
  obtain ⟨p4, e4, rfl⟩ := hl4.form
  have NF := Lib.hid hnf
  obtain ⟨W5, hW5⟩ : ∃ z, z = w4.alloc (.cells #[.string x.1.nm, .slice q4 x.1.args.length d4, .slice p4 x.2.length e4] 27) := ⟨_, rfl⟩
  have J5 : Hid (Below w4.heap.size w4 W5) := Lib.hid (by rw [hW5]; exact below_alloc _ _)
  have H5 : Hid (Has W5 w4.heap.size #[.string x.1.nm, .slice q4 x.1.args.length d4, .slice p4 x.2.length e4]) := Lib.hid (by rw [hW5]; exact Has.new _ _ _)
  have hz5 : w4.heap.size + 1 ≤ W5.heap.size := by rw [hW5]; simp
  have D5 := Lib.hid (next0 (next0 D3.out k4) J5.out)
  have R5 := Lib.hid (H3.out.step0 (next0 k4 J5.out))
  have S5 := Lib.hid ((hs4.frame (w' := W5) fun b o hb => J5.out.cell (p := ⟨b, o, none⟩) hb.2).weaken (ok' := (· < w4.heap.size)) fun b hb => hb.2)
  have L5 := Lib.hid ((hl4.keep (w' := W5) fun b o hb => J5.out.cell (p := ⟨b, o, none⟩) hb.2).wide (ok' := (· < w4.heap.size)) fun b hb => hb.2)
  clear hs4 hl4 hn4 k4 RN hnf H3 D3 r1 r2 r3 r4 r5 r6 r7
  by_cases hc0 : cr = 0
  case neg =>
    have hcb : (cr != 0) = true := by simpa using hc0
    go_upto_region 4 with fail
    rw [← hW5]
    clear hW5
    go_wp2_with fail
    refine (CA.out _ D5.out).mono ?_
    rintro e w6 ⟨rfl, k⟩
    have D := Lib.hid (QW.out _ (next0 D5.out k))
    clear k
    go_wp2_with fail
    go_ret
    exact ⟨rfl, D.out⟩
  subst hc0
  have RE5 := Lib.hid (RE.out (by first | rfl | trivial) hg.out W5 D5.out)
  have y8 := Y8.out hg.out
  have ON0 := Lib.hid (fun o h1 h2 h3 => ON.out o (by first | rfl | trivial) h1 h2 h3)
  clear RE ON Y8
  obtain ⟨r1, r2, r3, r4, r5, r6, r7⟩ := UnpP.has3 R5.out
  go_upto_region 4 with fail
  rw [← hW5]
  clear hW5
  go_wp2_with fail
  refine RE5.out.mono ?_
  rintro e w6 ⟨q6, d6, v6, rfl, hs6, hl6, hn6, k6⟩
  obtain ⟨p6, e6, rfl⟩ := hl6.form
  obtain ⟨W8, hW8⟩ : ∃ z, z = w6.alloc (.cells #[.string y.1.nm, .slice q6 y.1.args.length d6, .slice p6 y.2.length e6] 27) := ⟨_, rfl⟩
  have J8 : Hid (Below w6.heap.size w6 W8) := Lib.hid (by rw [hW8]; exact below_alloc _ _)
  have Y8 : Hid (Has W8 w6.heap.size #[.string y.1.nm, .slice q6 y.1.args.length d6, .slice p6 y.2.length e6]) := Lib.hid (by rw [hW8]; exact Has.new _ _ _)
  have hz8 : w6.heap.size + 1 ≤ W8.heap.size := by rw [hW8]; simp
  obtain ⟨W9, hW9⟩ : ∃ z, z = W8.alloc (.cells #[.string y.1.nm, .slice q6 y.1.args.length d6, .slice none 0 0] 27) := ⟨_, rfl⟩
  obtain ⟨R, hR⟩ : ∃ m, m = W8.heap.size := ⟨_, rfl⟩
  have J9 : Hid (Below W8.heap.size W8 W9) := Lib.hid (by rw [hW9]; exact below_alloc _ _)
  have HR0 : Hid (Has W9 R #[.string y.1.nm, .slice q6 y.1.args.length d6, .slice none 0 0]) := Lib.hid (by rw [hW9, hR]; exact Has.new _ _ _)
  have hz9 : W9.heap.size = R + 1 := by rw [hW9, hR]; simp
  have K9 := Lib.hid (next0 (next0 k6 J8.out) J9.out)
  have k6s := k6.size
  have HP9 := Lib.hid (R5.out.step0 K9.out)
  have HX9 := Lib.hid (H5.out.step0 K9.out)
  have HY9 := Lib.hid (Y8.out.step0 J9.out)
  have D9 := Lib.hid (next0 D5.out K9.out)
  have hRY : w6.heap.size < R := by omega
  have hRX : w4.heap.size < R := by omega
  have hRP : w.heap.size < R := by have := G0.out.size; have := D5.out.size; have := Ha.out.lt; omega
  have h2R : W2.heap.size ≤ R := by have := D5.out.size; omega
  have SX := Lib.hid (fun w' (q : Lt (fun b => b = R) W9 w') => S5.out.frame (w' := w') fun b o hb => (q.cell (o := o) (show b < W9.heap.size by omega) (show ¬ b = R by omega)).trans (K9.out.cell (p := ⟨b, o, none⟩) (show b < W5.heap.size by omega)))
  have LX := Lib.hid (fun w' (q : Lt (fun b => b = R) W9 w') => L5.out.keep (w' := w') fun b o hb => (q.cell (o := o) (show b < W9.heap.size by omega) (show ¬ b = R by omega)).trans (K9.out.cell (p := ⟨b, o, none⟩) (show b < W5.heap.size by omega)))
  have SY := Lib.hid (fun w' (q : Lt (fun b => b = R) W9 w') => (hs6.frame (w' := w') fun b o hb => (q.cell (o := o) (show b < W9.heap.size by have := hb.2; omega) (show ¬ b = R by have := hb.2; omega)).trans ((next0 J8.out J9.out).cell (p := ⟨b, o, none⟩) hb.2)).weaken (ok' := (· < R)) fun b hb => by have := hb.2; omega)
  have LY := Lib.hid (fun w' (q : Lt (fun b => b = R) W9 w') => (hl6.keep (w' := w') fun b o hb => (q.cell (o := o) (show b < W9.heap.size by have := hb.2; omega) (show ¬ b = R by have := hb.2; omega)).trans ((next0 J8.out J9.out).cell (p := ⟨b, o, none⟩) hb.2)).wide (ok' := (· < R)) fun b hb => by have := hb.2; omega)
  have NY := Lib.hid hn6
  clear hs6 hl6 hn6 k6 RE5 r1 r2 r3 r4 r5 r6 r7 S5 L5 R5 H5 J5 J8 K9
  generalize hyn : y.1.nm = yn at *
  have HYN := Lib.hid hyn
  generalize hya : y.1.args.length = ya at *
  have HYA := Lib.hid hya
  generalize hyb : y.2.length = n at *
  have HYB := Lib.hid hyb
  clear hyn hya hyb
  go_upto_region 7 with fail
  rw [← hW8]
  clear hW8
  obtain ⟨r1, r2, r3, r4, r5, r6, r7⟩ := UnpP.has3 Y8.out
  go_upto_region 10 with fail
  rw [← hW9, ← hR]
  clear hW9 hR Y8 J9 r1 r2 r3 r4 r5 r6 r7
  go_wp2_with fail
  go_loopw [10] (fun i wr => ∃ (k : Nat) (F : List (Lt × Value)) (v : Value), k ≤ n ∧ i = .int .i64 k ∧ Hid (F.length = k) ∧ Hid (wr.ownsRow (R + 1) KL.ty 3 v F.length (KL.flat F)) ∧ Hid (∀ z ∈ F, KL.inn (· < R) W9 z) ∧ Hid (F.map (·.1) = rotG y.2 d k) ∧ Hid (Has wr R #[.string yn, .slice q6 ya d6, v]) ∧ Hid (Lt (fun b => b = R) W9 wr)) (fun i _ => n - (intOf i).toNat)
  case atStart => exact ⟨0, [], _, Nat.zero_le _, rfl, Lib.hid rfl, Lib.hid (OwnG.nil (K := KL) _ _).1, Lib.hid (by simp), Lib.hid rfl, HR0, Lib.hid (Lt.of (Below.refl _ _))⟩
  case round =>
    clear HR0
    obtain ⟨k, F, v, hk, rfl, hFk, hO, hI, hF, hH, hX⟩ := hrel
    obtain ⟨va, vc, rfl⟩ := own_formL hO.out
    have HYr := Lib.hid (hX.out.has HY9.out (show ¬ w6.heap.size = R by omega))
    by_cases hlt : k < n
    · have hj : (k + d) % n < n := Nat.mod_lt _ (by omega)
      obtain ⟨z, g, o, q5, d5, hr, rfl, hgR, b1, b2, b3, hs, hrn⟩ := lin_row (LY.out W9 (Lt.of (Below.refl _ _))) ((k + d) % n) (by rw [HYB.out]; exact hj)
      have hgR' : g < R := hgR
      have c1 := (hX.out.cell (o := o + (k + d) % n * 3) (show g < W9.heap.size by omega) (show ¬ g = R by omega)).trans b1
      have c2 := (hX.out.cell (o := o + (k + d) % n * 3 + 1) (show g < W9.heap.size by omega) (show ¬ g = R by omega)).trans b2
      have c3 := (hX.out.cell (o := o + (k + d) % n * 3 + 1 + 1) (show g < W9.heap.size by omega) (show ¬ g = R by omega)).trans b3
      have hI8 : Hid (∀ x ∈ F ++ [(z, Value.slice q5 z.2.args.length d5)], KL.inn (· < R) W9 x) := Lib.hid (fun x hx => by
        rcases List.mem_append.1 hx with hx | hx
        · exact hI.out x hx
        · obtain rfl := List.mem_singleton.1 hx
          exact ⟨hs, hrn⟩)
      have hF8 : Hid ((F ++ [(z, Value.slice q5 z.2.args.length d5)]).map (·.1) = rotG y.2 d (k + 1)) := Lib.hid (by
        rw [List.map_append, hF.out]
        exact (rotG_more (by rw [HYB.out]; exact hr)).symm)
      have hO8 : Hid (∀ (w' : World) (v' : Value), w'.ownsRow (R + 1) KL.ty 3 v' (F.length + 1) (KL.flat F ++ [.bool z.1, .string z.2.nm, .slice q5 z.2.args.length d5]) → w'.ownsRow (R + 1) KL.ty 3 v' (F ++ [(z, Value.slice q5 z.2.args.length d5)]).length (KL.flat (F ++ [(z, Value.slice q5 z.2.args.length d5)]))) := Lib.hid (fun w' v' h => by rw [flat_app, flat_one, List.length_append, List.length_singleton]; exact h)
      have A1 : F.length + 1 ≤ maxLen := by have := hFk.out; unfold maxLen; omega
      have A2 : (F.length + 1) * 48 ≤ 140737488355328 := by have := hFk.out; omega
      have hvl : Hid (∀ j, (Value.slice va F.length vc).ownBlock = some j → R + 1 ≤ j ∧ j < wr.heap.size) := Lib.hid hO.out.lt
      have hzr := hX.out.size
      have XD : Hid (Lt (fun b => b = R) W9 wr.drew) := Lib.hid (Lt.below hX.out (Below.refl _ _).drew)
      have OD : Hid (wr.drew.ownsRow (R + 1) KL.ty 3 (.slice va F.length vc) F.length (KL.flat F)) := Lib.hid (own_lt (ex := fun _ => False) hO.out (Lt.of (Below.refl _ _).drew) (fun _ _ h => h))
      have HD : Hid (Has wr.drew R #[.string yn, .slice q6 ya d6, .slice va F.length vc]) := Lib.hid hH.out.drew
      have hzd : wr.heap.size ≤ wr.drew.heap.size := Nat.le_refl _
      obtain ⟨t1, t2, t3, t4, t5, t6, t7⟩ := UnpP.has3 HYr.out
      obtain ⟨s1, s2, s3, s4, s5, s6, s7⟩ := UnpP.has3 hH.out
      have RE := rem_nat2 k d n (by omega) hd
      have hn0 : ¬ n = 0 := by omega
      clear hs hrn hr hO hI hF hH
      generalize hzl : (z, Value.slice q5 z.2.args.length d5) = zl at *
      generalize z.1 = zb at *
      generalize z.2.nm = zn at *
      generalize z.2.args.length = za at *
      clear hzl
      generalize hjj : (k + d) % n = j at *
      have hjI : (j : Int) < n := by omega
      have Hb : Hid (∀ w', Lt (fun b => b = R) W9 w' → (w'.cell? ⟨w6.heap.size, 2, none⟩ = some (.slice (some ⟨g, o, none⟩) n e6) ∧ w'.cell? ⟨g, o + j * 3, none⟩ = some (.bool zb) ∧ w'.cell? ⟨g, o + j * 3 + 1, none⟩ = some (.string zn) ∧ w'.cell? ⟨g, o + j * 3 + 1 + 1, none⟩ = some (.slice q5 za d5))) := Lib.hid (fun w' gl => by
        have h1 := gl.has HY9.out (show ¬ w6.heap.size = R by omega)
        have h2 : ∀ i, w'.cell? ⟨g, i, none⟩ = W9.cell? ⟨g, i, none⟩ := fun i => gl.cell (show g < W9.heap.size by omega) (show ¬ g = R by omega)
        exact ⟨h1.cell 2, (h2 _).trans b1, (h2 _).trans b2, (h2 _).trans b3⟩)
      clear b1 b2 b3
      go_upto_region 13 with fail
      refine wp_region_held_drew (S := (fun w' => w'.cell? ⟨w6.heap.size, 2, none⟩ = some (.slice (some ⟨g, o, none⟩) n e6) ∧ w'.cell? ⟨g, o + j * 3, none⟩ = some (.bool zb) ∧ w'.cell? ⟨g, o + j * 3 + 1, none⟩ = some (.string zn) ∧ w'.cell? ⟨g, o + j * 3 + 1 + 1, none⟩ = some (.slice q5 za d5))) (by kernel_rfl) (Hb.out _ XD.out) (fun hHeld => ?_)
      generalize hw0 : wr.drew = wd at hHeld XD OD HD hzd ⊢
      clear hw0 s1 s2 s3 s4 s5 s6 s7 t1 t2 t3 t4 t5 t6 t7 c1 c2 c3
      refine wpAnyH_take (i := 0) (v := ?_) rfl (by kernel_rfl) (by kernel_rfl) (by kernel_rfl) (fun _ _ _ h => h) (Or.inl ⟨by rfl, ?_⟩) (by assumption) ?_
      rotate_left
      · intro w' hSw; (try dsimp only at hSw); (try simp only [List.getElem_toArray, List.getElem_cons_zero]); go_simp; try with_reducible rfl
      (try simp only [List.getElem_toArray, List.getElem_cons_zero, Act.put, List.setIfInBounds_toArray, List.set_cons_zero, List.set_cons_succ])
      refine wpAnyH_take (i := 2) (v := ?_) rfl (by kernel_rfl) (by kernel_rfl) (by kernel_rfl) (fun _ _ _ h => h) (Or.inl ⟨by rfl, ?_⟩) (by assumption) ?_
      rotate_left
      · intro w' hSw; (try dsimp only at hSw); (try simp only [List.getElem_toArray, List.getElem_cons_zero, List.getElem_cons_succ]); go_simp; try with_reducible rfl
      (try simp only [List.getElem_toArray, List.getElem_cons_zero, List.getElem_cons_succ, Act.put, List.setIfInBounds_toArray, List.set_cons_zero, List.set_cons_succ])
      refine wpAnyH_take (i := 3) (v := ?_) rfl (by kernel_rfl) (by kernel_rfl) (by kernel_rfl) (fun _ _ _ h => h) (Or.inl ⟨by rfl, ?_⟩) (by assumption) ?_
      rotate_left
      · intro w' hSw; (try dsimp only at hSw); (try simp only [List.getElem_toArray, List.getElem_cons_zero, List.getElem_cons_succ]); go_simp; try with_reducible rfl
      (try simp only [List.getElem_toArray, List.getElem_cons_zero, List.getElem_cons_succ, Act.put, List.setIfInBounds_toArray, List.set_cons_zero, List.set_cons_succ])
      refine wpAnyH_take (i := 4) (v := ?_) rfl (by kernel_rfl) (by kernel_rfl) (by kernel_rfl) (fun _ _ _ h => h) (Or.inl ⟨by rfl, ?_⟩) (by assumption) ?_
      rotate_left
      · intro w' hSw; (try dsimp only at hSw); (try simp only [List.getElem_toArray, List.getElem_cons_zero, List.getElem_cons_succ]); go_simp; try with_reducible rfl
      (try simp only [List.getElem_toArray, List.getElem_cons_zero, List.getElem_cons_succ, Act.put, List.setIfInBounds_toArray, List.set_cons_zero, List.set_cons_succ])
      refine wpAnyH_take (i := 5) (v := ?_) rfl (by kernel_rfl) (by kernel_rfl) (by kernel_rfl) (fun _ _ _ h => h) (Or.inl ⟨by rfl, ?_⟩) (by assumption) ?_
      rotate_left
      · intro w' hSw; (try dsimp only at hSw); (try simp only [List.getElem_toArray, List.getElem_cons_zero, List.getElem_cons_succ]); go_simp; try with_reducible rfl
      (try simp only [List.getElem_toArray, List.getElem_cons_zero, List.getElem_cons_succ, Act.put, List.setIfInBounds_toArray, List.set_cons_zero, List.set_cons_succ])
      refine wpAnyH_take (i := 6) (v := ?_) rfl (by kernel_rfl) (by kernel_rfl) (by kernel_rfl) (fun _ _ _ h => h) (Or.inl ⟨by rfl, ?_⟩) (by assumption) ?_
      rotate_left
      · intro w' hSw; (try dsimp only at hSw); (try simp only [List.getElem_toArray, List.getElem_cons_zero, List.getElem_cons_succ]); go_simp; try with_reducible rfl
      (try simp only [List.getElem_toArray, List.getElem_cons_zero, List.getElem_cons_succ, Act.put, List.setIfInBounds_toArray, List.set_cons_zero, List.set_cons_succ])
      refine wpAnyH_take (i := 7) (v := ?_) rfl (by kernel_rfl) (by kernel_rfl) (by kernel_rfl) (fun _ _ _ h => h) (Or.inl ⟨by rfl, ?_⟩) (by assumption) ?_
      rotate_left
      · intro w' hSw; (try dsimp only at hSw); (try simp only [List.getElem_toArray, List.getElem_cons_zero, List.getElem_cons_succ]); go_simp; try with_reducible rfl
      (try simp only [List.getElem_toArray, List.getElem_cons_zero, List.getElem_cons_succ, Act.put, List.setIfInBounds_toArray, List.set_cons_zero, List.set_cons_succ])
      refine wpAnyH_take (i := 8) (v := ?_) rfl (by kernel_rfl) (by kernel_rfl) (by kernel_rfl) (fun _ _ _ h => h) (Or.inl ⟨by rfl, ?_⟩) (by assumption) ?_
      rotate_left
      · intro w' hSw; (try dsimp only at hSw); (try simp only [List.getElem_toArray, List.getElem_cons_zero, List.getElem_cons_succ]); go_simp; try with_reducible rfl
      (try simp only [List.getElem_toArray, List.getElem_cons_zero, List.getElem_cons_succ, Act.put, List.setIfInBounds_toArray, List.set_cons_zero, List.set_cons_succ])
      refine wpAnyH_take (i := 9) (v := ?_) rfl (by kernel_rfl) (by kernel_rfl) (by kernel_rfl) (fun _ _ _ h => h) (Or.inl ⟨by rfl, ?_⟩) (by assumption) ?_
      rotate_left
      · intro w' hSw; (try dsimp only at hSw); (try simp only [List.getElem_toArray, List.getElem_cons_zero, List.getElem_cons_succ]); go_simp; try with_reducible rfl
      (try simp only [List.getElem_toArray, List.getElem_cons_zero, List.getElem_cons_succ, Act.put, List.setIfInBounds_toArray, List.set_cons_zero, List.set_cons_succ])
      refine wpAnyH_take (i := 10) (v := ?_) rfl (by kernel_rfl) (by kernel_rfl) (by kernel_rfl) (fun _ _ _ h => h) (Or.inl ⟨by rfl, ?_⟩) (by assumption) ?_
      rotate_left
      · intro w' hSw; (try dsimp only at hSw); (try simp only [List.getElem_toArray, List.getElem_cons_zero, List.getElem_cons_succ]); go_simp; try with_reducible rfl
      (try simp only [List.getElem_toArray, List.getElem_cons_zero, List.getElem_cons_succ, Act.put, List.setIfInBounds_toArray, List.set_cons_zero, List.set_cons_succ])
      refine wpAnyH_take (i := 11) (v := ?_) rfl (by kernel_rfl) (by kernel_rfl) (by kernel_rfl) (fun _ _ _ h => h) (Or.inl ⟨by rfl, ?_⟩) (by assumption) ?_
      rotate_left
      · intro w' hSw; (try dsimp only at hSw); (try simp only [List.getElem_toArray, List.getElem_cons_zero, List.getElem_cons_succ]); go_simp; try with_reducible rfl
      (try simp only [List.getElem_toArray, List.getElem_cons_zero, List.getElem_cons_succ, Act.put, List.setIfInBounds_toArray, List.set_cons_zero, List.set_cons_succ])
      refine wpAnyH_take (i := 12) (v := ?_) rfl (by kernel_rfl) (by kernel_rfl) (by kernel_rfl) (fun _ _ _ h => h) (Or.inl ⟨by rfl, ?_⟩) (by assumption) ?_
      rotate_left
      · intro w' hSw; (try dsimp only at hSw); (try simp only [List.getElem_toArray, List.getElem_cons_zero, List.getElem_cons_succ]); go_simp; try with_reducible rfl
      (try simp only [List.getElem_toArray, List.getElem_cons_zero, List.getElem_cons_succ, Act.put, List.setIfInBounds_toArray, List.set_cons_zero, List.set_cons_succ])
      refine wpAnyH_take (i := 13) (v := ?_) rfl (by kernel_rfl) (by kernel_rfl) (by kernel_rfl) (fun _ _ _ h => h) (Or.inl ⟨by rfl, ?_⟩) (by assumption) ?_
      rotate_left
      · intro w' hSw; (try dsimp only at hSw); (try simp only [List.getElem_toArray, List.getElem_cons_zero, List.getElem_cons_succ]); go_simp; try with_reducible rfl
      (try simp only [List.getElem_toArray, List.getElem_cons_zero, List.getElem_cons_succ, Act.put, List.setIfInBounds_toArray, List.set_cons_zero, List.set_cons_succ])
      refine wpAnyH_ready (rs := [1, 14]) (by kernel_rfl) (by simp) ?_
      refine (AllReadyH.cons rfl (fun K' hK => ?q1) (AllReadyH.cons rfl (fun K' hK => ?q2) AllReadyH.nil))
      case' q1 =>
        obtain ⟨f1, f2, f3, f4, f5, f6, f7⟩ := UnpP.has3 HD.out
        go_simp
        (try go_split_ands)
        clear f1 f2 f3 f4 f5 f6 f7
        refine hK.out _ _ (Hb.out _ XD.out) (fun hHeld => ?_)
        clear hK K'
        (try simp only [List.getElem_toArray, List.getElem_cons_zero, List.getElem_cons_succ, Act.put, List.setIfInBounds_toArray, List.set_cons_zero, List.set_cons_succ])
        refine wpAnyH_ready (rs := [14]) (by kernel_rfl) (by simp) ?_
        refine (AllReadyH.cons rfl (fun K' hK => ?_) AllReadyH.nil)
        go_simp
        (try go_split_ands)
        obtain ⟨w22, hw2⟩ : ∃ z, z = wd.alloc (.cells #[.bool zb, .string zn, .slice q5 za d5] 47) := ⟨_, rfl⟩
        rw [← hw2]
        have J2 : Hid (Below wd.heap.size wd w22) := Lib.hid (by rw [hw2]; exact below_alloc _ _)
        have HB2 : Hid (Has w22 wd.heap.size #[.bool zb, .string zn, .slice q5 za d5]) := Lib.hid (by rw [hw2]; exact Has.new _ _ _)
        have hz2 : wd.heap.size + 1 ≤ w22.heap.size := by rw [hw2]; simp
        clear hw2
        have X2 := Lib.hid (Lt.below XD.out J2.out)
        have HD2 := Lib.hid (HD.out.step0 J2.out)
        have O2 := Lib.hid (own_lt (ex := fun _ => False) OD.out (Lt.of J2.out) (fun _ _ h => h))
        refine hK.out _ _ (Hb.out _ X2.out) (fun hHeld => ?_)
        clear hK K'
        (try simp only [List.getElem_toArray, List.getElem_cons_zero, List.getElem_cons_succ, Act.put, List.setIfInBounds_toArray, List.set_cons_zero, List.set_cons_succ])
      case' q2 =>
        go_simp
        (try go_split_ands)
        obtain ⟨w22, hw2⟩ : ∃ z, z = wd.alloc (.cells #[.bool zb, .string zn, .slice q5 za d5] 47) := ⟨_, rfl⟩
        rw [← hw2]
        have J2 : Hid (Below wd.heap.size wd w22) := Lib.hid (by rw [hw2]; exact below_alloc _ _)
        have HB2 : Hid (Has w22 wd.heap.size #[.bool zb, .string zn, .slice q5 za d5]) := Lib.hid (by rw [hw2]; exact Has.new _ _ _)
        have hz2 : wd.heap.size + 1 ≤ w22.heap.size := by rw [hw2]; simp
        clear hw2
        have X2 := Lib.hid (Lt.below XD.out J2.out)
        have HD2 := Lib.hid (HD.out.step0 J2.out)
        have O2 := Lib.hid (own_lt (ex := fun _ => False) OD.out (Lt.of J2.out) (fun _ _ h => h))
        refine hK.out _ _ (Hb.out _ X2.out) (fun hHeld => ?_)
        clear hK K'
        (try simp only [List.getElem_toArray, List.getElem_cons_zero, List.getElem_cons_succ, Act.put, List.setIfInBounds_toArray, List.set_cons_zero, List.set_cons_succ])
        refine wpAnyH_ready (rs := [1]) (by kernel_rfl) (by simp) ?_
        refine (AllReadyH.cons rfl (fun K' hK => ?_) AllReadyH.nil)
        obtain ⟨f1, f2, f3, f4, f5, f6, f7⟩ := UnpP.has3 HD2.out
        go_simp
        (try go_split_ands)
        clear f1 f2 f3 f4 f5 f6 f7
        refine hK.out _ _ (Hb.out _ X2.out) (fun hHeld => ?_)
        clear hK K'
        (try simp only [List.getElem_toArray, List.getElem_cons_zero, List.getElem_cons_succ, Act.put, List.setIfInBounds_toArray, List.set_cons_zero, List.set_cons_succ])
      all_goals
        refine wpAnyH_ready (rs := [15]) (by kernel_rfl) (by simp) ?_
        refine (AllReadyH.cons rfl (fun K' hK => ?_) AllReadyH.nil)
        refine step_append_lies _ rfl _ _ 25 rfl (R + 1) 47 i0 (.agg #[.bool false, .string ⟨#[]⟩, .slice none 0 0]) 3 48 Tryz.underlying25 hi0 hi1 hi2 hi3 rfl (by decide) (.slice va F.length vc) F.length (KL.flat F) rfl O2.out ⟨wd.heap.size, 0, none⟩ 1 1 [.bool zb, .string zn, .slice q5 za d5] rfl rfl (World.news_of_block HB2.out.choose_spec) (one_L _ _ _ _ _) (by decide) A1 A2 (show R + 1 ≤ w22.heap.size by omega) _ rfl ?_
        intro g9 c9 w9 hown hgrow hat hlt9
        have X9 := Lib.hid (Lt.grown X2.out hgrow (fun k e => Or.inr (by have := (hvl.out k e).1; omega)))
        have L9 : Hid (Lt (fun b => (Value.slice va F.length vc).ownBlock = some b) w22 w9) := Lib.hid (Lt.grown (Lt.of (Below.refl _ _)) hgrow (fun k e => Or.inl e))
        have HR9 := Lib.hid (L9.out.has HD2.out (fun e => by have := (hvl.out _ e).1; omega))
        have O9 := Lib.hid hown
        clear hown hgrow hat
        refine hK.out _ _ (Hb.out _ X9.out) (fun hHeld => ?_)
        clear hK K'
        (try simp only [List.getElem_toArray, List.getElem_cons_zero, List.getElem_cons_succ, Act.put, List.setIfInBounds_toArray, List.set_cons_zero, List.set_cons_succ])
        refine wpAnyH_take (i := 16) (v := ?_) rfl (by kernel_rfl) (by kernel_rfl) (by kernel_rfl) (fun _ _ _ h => h) (Or.inl ⟨by rfl, ?_⟩) (by assumption) ?_
        rotate_left
        · intro w' hSw; (try dsimp only at hSw); (try simp only [List.getElem_toArray, List.getElem_cons_zero, List.getElem_cons_succ]); go_simp; try with_reducible rfl
        (try simp only [List.getElem_toArray, List.getElem_cons_zero, List.getElem_cons_succ, Act.put, List.setIfInBounds_toArray, List.set_cons_zero, List.set_cons_succ])
        refine wpAnyH_ready (rs := [17]) (by kernel_rfl) (by simp) ?_
        refine (AllReadyH.cons rfl (fun K' hK => ?_) AllReadyH.nil)
        obtain ⟨f1, f2, f3, f4, f5, f6, f7⟩ := UnpP.has3 HR9.out
        go_simp
        (try go_split_ands)
        obtain ⟨w10, hw10⟩ : ∃ z, z = w9.setCell ⟨R, 2, none⟩ (.slice (some ⟨g9, 0, none⟩) (F.length + 1) c9) := ⟨_, rfl⟩
        rw [← hw10]
        have X10 : Hid (Lt (fun b => b = R) W9 w10) := Lib.hid (by rw [hw10]; exact X9.out.put (Or.inl rfl) _)
        have HR10 : Hid (Has w10 R #[.string yn, .slice q6 ya d6, .slice (some ⟨g9, 0, none⟩) (F.length + 1) c9]) := Lib.hid (by rw [hw10]; exact HR9.out.set 2 _)
        have O10 : Hid (w10.ownsRow (R + 1) KL.ty 3 (.slice (some ⟨g9, 0, none⟩) (F.length + 1) c9) (F.length + 1) (KL.flat F ++ [.bool zb, .string zn, .slice q5 za d5])) := Lib.hid (own_lt (ex := (· = R)) O9.out (by rw [hw10]; exact Lt.put (ex := (· = R)) (p := ⟨R, 2, none⟩) (Lt.of (Below.refl _ _)) (Or.inl rfl) _) (fun k e => by have := (O9.out.lt k e).1; omega))
        clear hw10 f1 f2 f3 f4 f5 f6 f7
        refine hK.out _ _ (Hb.out _ X10.out) (fun hHeld => ?_)
        clear hK K'
        (try simp only [List.getElem_toArray, List.getElem_cons_zero, List.getElem_cons_succ, Act.put, List.setIfInBounds_toArray, List.set_cons_zero, List.set_cons_succ])
        refine wpAnyH_done (by kernel_rfl) ?_ _
        go_wp2_with fail
        go_roundw
        case rel => exact ⟨k + 1, F ++ [zl], _, by omega, by go_num, Lib.hid (by rw [List.length_append, List.length_singleton]; have := hFk.out; omega), Lib.hid (hO8.out _ _ O10.out), hI8, hF8, HR10, X10⟩
        case measure => simp [intOf]; omega
    · obtain rfl : k = n := by omega
      have MEM : Hid (∀ z, z ∈ F.map (·.1) ↔ z ∈ y.2) := Lib.hid (fun z => by
        rw [hF.out]
        by_cases h0 : 0 < k
        · have h1 := rotG_mem (l := y.2) (d := d) (by rw [HYB.out]; exact h0) z
          rw [HYB.out] at h1
          exact h1
        · obtain rfl : k = 0 := by omega
          rw [List.eq_nil_of_length_eq_zero HYB.out]
          simp [rotG])
      have h8 : F.length ≤ 8 := by have := hFk.out; omega
      have DX := Lib.hid (D9.out.trans (hX.out.toBelow (B := W2.heap.size) (by omega) (fun i e => by omega)))
      obtain ⟨C, hC⟩ : ∃ C : Bool, C = true ↔ (0 < F.length ∧ F.length < 8) := ⟨decide (0 < F.length ∧ F.length < 8), by simp⟩
      have HC := Lib.hid hC
      obtain ⟨t1, t2, t3, t4, t5, t6, t7⟩ := UnpP.has3 HYr.out
      clear hF hFk hC HYr LY
      obtain ⟨s1, s2, s3, s4, s5, s6, s7⟩ := UnpP.has3 hH.out
      go_upto_region 14 with fail
      go_cut [72] (fun s72 wx => s72 = .bool C ∧ wx = wr)
      case first =>
        clear ON0 SM SX LX SY MEM hI hO hX DX NF NY HYN HYA HYB CA QW HW HP9 HX9 HY9
        cases C
        · have hn : ¬ (0 < F.length ∧ F.length < 8) := fun h => by have := HC.out.2 h; cases this
          clear HC
          by_cases h0 : 0 < F.length
          · have h1 : ¬ F.length < 8 := fun h => hn ⟨h0, h⟩
            clear hn
            go_wp2_with fail
            go_meet
            exact ⟨by first | rfl | (rw [decide_eq_false (by omega)]) | (rw [decide_eq_true (by omega)]), rfl⟩
          · clear hn
            go_wp2_with fail
            go_meet
            exact ⟨by first | rfl | (rw [decide_eq_false (by omega)]) | (rw [decide_eq_true (by omega)]), rfl⟩
        · obtain ⟨h0, h1⟩ := HC.out.1 rfl
          clear HC
          go_wp2_with fail
          go_meet
          exact ⟨by first | rfl | (rw [decide_eq_false (by omega)]) | (rw [decide_eq_true (by omega)]), rfl⟩
      case rest =>
        obtain ⟨rfl, rfl⟩ := hcut
        generalize hwr : wc = wr at *
        clear hwr
        clear s1 s2 s3 s4 s5 s6 s7 t1 t2 t3 t4 t5 t6 t7
        go_upto_if 72 with fail
        go_cut [4] (fun s4 wx => s4 = .bool false ∧ ∃ (F : List (Lt × Value)) (v : Value), F.length ≤ 8 ∧ Hid (wx.ownsRow (R + 1) KL.ty 3 v F.length (KL.flat F)) ∧ Hid (∀ z ∈ F, KL.inn (· < R) W9 z) ∧ Hid (∀ z, z ∈ F.map (·.1) ↔ z ∈ y.2) ∧ Hid (Has wx R #[.string yn, .slice q6 ya d6, v]) ∧ Hid (Lt (fun b => b = R) W9 wx))
        case first =>
          clear ON0 SM SX LX SY DX NF NY HYN HYA HYB CA QW HW HP9 HX9 HY9
          cases C
          · clear HC
            go_wp2_with fail
            go_meet
            exact ⟨rfl, F, _, h8, hO, hI, MEM, hH, hX⟩
          · skip
            obtain ⟨h0, h1⟩ := HC.out.1 (by first | rfl | trivial)
            clear HC
            have hj : d % F.length < F.length := Nat.mod_lt _ h0
            obtain ⟨gv, hgv⟩ : ∃ gv, va = some ⟨gv, 0, none⟩ := by
              rcases hO.out.2 with ⟨e, hz⟩ | ⟨gv, cap, cur, e, _⟩
              · omega
              · injection e with e1 _ _; exact ⟨gv, e1⟩
            subst hgv
            obtain ⟨zl, hz⟩ : ∃ z, F[d % F.length]? = some z := ⟨F[d % F.length]'hj, by simp⟩
            have hzm := List.mem_of_getElem? hz
            have hin := hI.out zl hzm
            obtain ⟨q5, d5, hzv⟩ := hin.1.form
            have b1 : wr.cell? ⟨gv, d % F.length * 3, none⟩ = some (.bool zl.1.1) := (hO.out.cellAt (d % F.length * 3 + 0) (by omega)).trans (flat_get F (d % F.length) zl hz 0 _ rfl)
            have b2 : wr.cell? ⟨gv, d % F.length * 3 + 1, none⟩ = some (.string zl.1.2.nm) := (hO.out.cellAt (d % F.length * 3 + 1) (by omega)).trans (flat_get F (d % F.length) zl hz 1 _ rfl)
            have b3 : wr.cell? ⟨gv, d % F.length * 3 + 1 + 1, none⟩ = some (.slice q5 zl.1.2.args.length d5) := ((hO.out.cellAt (d % F.length * 3 + 2) (by omega)).trans (flat_get F (d % F.length) zl hz 2 _ rfl)).trans (by rw [hzv])
            have hI8 : Hid (∀ x ∈ F ++ [zl], KL.inn (· < R) W9 x) := Lib.hid (fun x hx => by
              rcases List.mem_append.1 hx with hx | hx
              · exact hI.out x hx
              · obtain rfl := List.mem_singleton.1 hx
                exact hin)
            have hM8 : Hid (∀ u, u ∈ (F ++ [zl]).map (·.1) ↔ u ∈ y.2) := Lib.hid (fun u => by
              rw [List.map_append, List.mem_append, MEM.out]
              refine ⟨fun h => ?_, Or.inl⟩
              rcases h with h | h
              · exact h
              · simp only [List.map_cons, List.map_nil, List.mem_singleton] at h
                rw [h]
                exact (MEM.out _).1 (List.mem_map_of_mem hzm))
            have hO8 : Hid (∀ (w' : World) (v' : Value), w'.ownsRow (R + 1) KL.ty 3 v' (F.length + 1) (KL.flat F ++ [.bool zl.1.1, .string zl.1.2.nm, .slice q5 zl.1.2.args.length d5]) → w'.ownsRow (R + 1) KL.ty 3 v' (F ++ [zl]).length (KL.flat (F ++ [zl]))) := Lib.hid (fun w' v' h => by rw [flat_app, flat_one, List.length_append, List.length_singleton]; rw [← hzv] at h; exact h)
            have A1 : F.length + 1 ≤ maxLen := by unfold maxLen; omega
            have A2 : (F.length + 1) * 48 ≤ 140737488355328 := by omega
            have hvl : Hid (∀ j, (Value.slice (some ⟨gv, 0, none⟩) F.length vc).ownBlock = some j → R + 1 ≤ j ∧ j < wr.heap.size) := Lib.hid hO.out.lt
            have hgl : gv < wr.heap.size := (hvl.out gv rfl).2
            have hzr := hX.out.size
            have XD : Hid (Lt (fun b => b = R) W9 wr.drew) := Lib.hid (Lt.below hX.out (Below.refl _ _).drew)
            have OD : Hid (wr.drew.ownsRow (R + 1) KL.ty 3 (.slice (some ⟨gv, 0, none⟩) F.length vc) F.length (KL.flat F)) := Lib.hid (own_lt (ex := fun _ => False) hO.out (Lt.of (Below.refl _ _).drew) (fun _ _ h => h))
            have HD : Hid (Has wr.drew R #[.string yn, .slice q6 ya d6, .slice (some ⟨gv, 0, none⟩) F.length vc]) := Lib.hid hH.out.drew
            have hzd : wr.heap.size ≤ wr.drew.heap.size := Nat.le_refl _
            have CD : Hid (wr.drew.cell? ⟨gv, d % F.length * 3, none⟩ = some (.bool zl.1.1) ∧ wr.drew.cell? ⟨gv, d % F.length * 3 + 1, none⟩ = some (.string zl.1.2.nm) ∧ wr.drew.cell? ⟨gv, d % F.length * 3 + 1 + 1, none⟩ = some (.slice q5 zl.1.2.args.length d5)) := Lib.hid ⟨((Below.refl _ _).drew.cell (p := ⟨gv, d % F.length * 3, none⟩) hgl).trans b1, ((Below.refl _ _).drew.cell (p := ⟨gv, d % F.length * 3 + 1, none⟩) hgl).trans b2, ((Below.refl _ _).drew.cell (p := ⟨gv, d % F.length * 3 + 1 + 1, none⟩) hgl).trans b3⟩
            have RE : (IntKind.i64.wrap (d : Int)).tmod F.length = ((d % F.length : Nat) : Int) := by
              have e1 : IntKind.i64.wrap (d : Int) = d := by rw [IntKind.wrap_i64]; omega
              rw [e1, Int.tmod_eq_emod_of_nonneg (by omega), ← Int.natCast_emod]
            have hn0 : ¬ F.length = 0 := by omega
            clear b1 b2 b3 hz hzm hin hzv hI MEM
            generalize zl.1.1 = zb at *
            generalize zl.1.2.nm = zn at *
            generalize zl.1.2.args.length = za at *
            generalize hjj : d % F.length = j at *
            have hjI : (j : Int) < F.length := by omega
            clear hO hH hX
            go_upto_region 15 with fail
            refine wp_region_held_drew (S := (fun _ => True)) (by kernel_rfl) trivial (fun hHeld => ?_)
            generalize hw0 : wr.drew = wd at hHeld XD OD HD CD hzd ⊢
            clear hw0
            refine wpAnyH_take (i := 0) (v := ?_) rfl (by kernel_rfl) (by kernel_rfl) (by kernel_rfl) (fun _ _ _ h => h) (Or.inl ⟨by rfl, ?_⟩) (by assumption) ?_
            rotate_left
            · intro w' hSw; (try dsimp only at hSw); (try simp only [List.getElem_toArray, List.getElem_cons_zero]); go_simp; try with_reducible rfl
            (try simp only [List.getElem_toArray, List.getElem_cons_zero, Act.put, List.setIfInBounds_toArray, List.set_cons_zero, List.set_cons_succ])
            refine wpAnyH_take (i := 2) (v := ?_) rfl (by kernel_rfl) (by kernel_rfl) (by kernel_rfl) (fun _ _ _ h => h) (Or.inl ⟨by rfl, ?_⟩) (by assumption) ?_
            rotate_left
            · intro w' hSw; (try dsimp only at hSw); (try simp only [List.getElem_toArray, List.getElem_cons_zero, List.getElem_cons_succ]); go_simp; try with_reducible rfl
            (try simp only [List.getElem_toArray, List.getElem_cons_zero, List.getElem_cons_succ, Act.put, List.setIfInBounds_toArray, List.set_cons_zero, List.set_cons_succ])
            refine wpAnyH_take (i := 4) (v := ?_) rfl (by kernel_rfl) (by kernel_rfl) (by kernel_rfl) (fun _ _ _ h => h) (Or.inl ⟨by rfl, ?_⟩) (by assumption) ?_
            rotate_left
            · intro w' hSw; (try dsimp only at hSw); (try simp only [List.getElem_toArray, List.getElem_cons_zero, List.getElem_cons_succ]); go_simp; try with_reducible rfl
            (try simp only [List.getElem_toArray, List.getElem_cons_zero, List.getElem_cons_succ, Act.put, List.setIfInBounds_toArray, List.set_cons_zero, List.set_cons_succ])
            refine wpAnyH_take (i := 5) (v := ?_) rfl (by kernel_rfl) (by kernel_rfl) (by kernel_rfl) (fun _ _ _ h => h) (Or.inl ⟨by rfl, ?_⟩) (by assumption) ?_
            rotate_left
            · intro w' hSw; (try dsimp only at hSw); (try simp only [List.getElem_toArray, List.getElem_cons_zero, List.getElem_cons_succ]); go_simp; try with_reducible rfl
            (try simp only [List.getElem_toArray, List.getElem_cons_zero, List.getElem_cons_succ, Act.put, List.setIfInBounds_toArray, List.set_cons_zero, List.set_cons_succ])
            refine wpAnyH_take (i := 6) (v := ?_) rfl (by kernel_rfl) (by kernel_rfl) (by kernel_rfl) (fun _ _ _ h => h) (Or.inl ⟨by rfl, ?_⟩) (by assumption) ?_
            rotate_left
            · intro w' hSw; (try dsimp only at hSw); (try simp only [List.getElem_toArray, List.getElem_cons_zero, List.getElem_cons_succ]); go_simp; try with_reducible rfl
            (try simp only [List.getElem_toArray, List.getElem_cons_zero, List.getElem_cons_succ, Act.put, List.setIfInBounds_toArray, List.set_cons_zero, List.set_cons_succ])
            refine wpAnyH_ready (rs := [1, 3, 7]) (by kernel_rfl) (by simp) ?_
            refine (AllReadyH.cons rfl (fun K' hK => ?q3) (AllReadyH.cons rfl (fun K' hK => ?q4) (AllReadyH.cons rfl (fun K' hK => ?q5) AllReadyH.nil)))
            case' q3 =>
              obtain ⟨f1, f2, f3, f4, f5, f6, f7⟩ := UnpP.has3 HD.out
              go_simp
              (try go_split_ands)
              clear f1 f2 f3 f4 f5 f6 f7
              refine hK.out _ _ trivial (fun hHeld => ?_)
              clear hK K'
              (try simp only [List.getElem_toArray, List.getElem_cons_zero, List.getElem_cons_succ, Act.put, List.setIfInBounds_toArray, List.set_cons_zero, List.set_cons_succ])
              refine wpAnyH_ready (rs := [3, 7]) (by kernel_rfl) (by simp) ?_
              refine (AllReadyH.cons rfl (fun K' hK => ?q6) (AllReadyH.cons rfl (fun K' hK => ?q7) AllReadyH.nil))
              case' q6 =>
                obtain ⟨f1, f2, f3, f4, f5, f6, f7⟩ := UnpP.has3 HD.out
                go_simp
                (try go_split_ands)
                clear f1 f2 f3 f4 f5 f6 f7
                refine hK.out _ _ trivial (fun hHeld => ?_)
                clear hK K'
                (try simp only [List.getElem_toArray, List.getElem_cons_zero, List.getElem_cons_succ, Act.put, List.setIfInBounds_toArray, List.set_cons_zero, List.set_cons_succ])
                refine wpAnyH_ready (rs := [7]) (by kernel_rfl) (by simp) ?_
                refine (AllReadyH.cons rfl (fun K' hK => ?_) AllReadyH.nil)
                obtain ⟨f1, f2, f3, f4, f5, f6, f7⟩ := UnpP.has3 HD.out
                go_simp
                (try go_split_ands)
                clear f1 f2 f3 f4 f5 f6 f7
                refine hK.out _ _ trivial (fun hHeld => ?_)
                clear hK K'
                (try simp only [List.getElem_toArray, List.getElem_cons_zero, List.getElem_cons_succ, Act.put, List.setIfInBounds_toArray, List.set_cons_zero, List.set_cons_succ])
                refine wpAnyH_take (i := 8) (v := ?_) rfl (by kernel_rfl) (by kernel_rfl) (by kernel_rfl) (fun _ _ _ h => h) (Or.inl ⟨by rfl, ?_⟩) (by assumption) ?_
                rotate_left
                · intro w' hSw; (try dsimp only at hSw); (try simp only [List.getElem_toArray, List.getElem_cons_zero, List.getElem_cons_succ]); go_simp; try with_reducible rfl
                (try simp only [List.getElem_toArray, List.getElem_cons_zero, List.getElem_cons_succ, Act.put, List.setIfInBounds_toArray, List.set_cons_zero, List.set_cons_succ])
                refine wpAnyH_take (i := 9) (v := ?_) rfl (by kernel_rfl) (by kernel_rfl) (by kernel_rfl) (fun _ _ _ h => h) (Or.inl ⟨by rfl, ?_⟩) (by assumption) ?_
                rotate_left
                · intro w' hSw; (try dsimp only at hSw); (try simp only [List.getElem_toArray, List.getElem_cons_zero, List.getElem_cons_succ]); go_simp; try with_reducible rfl
                (try simp only [List.getElem_toArray, List.getElem_cons_zero, List.getElem_cons_succ, Act.put, List.setIfInBounds_toArray, List.set_cons_zero, List.set_cons_succ])
                refine wpAnyH_take (i := 10) (v := ?_) rfl (by kernel_rfl) (by kernel_rfl) (by kernel_rfl) (fun _ _ _ h => h) (Or.inl ⟨by rfl, ?_⟩) (by assumption) ?_
                rotate_left
                · intro w' hSw; (try dsimp only at hSw); (try simp only [List.getElem_toArray, List.getElem_cons_zero, List.getElem_cons_succ]); go_simp; try with_reducible rfl
                (try simp only [List.getElem_toArray, List.getElem_cons_zero, List.getElem_cons_succ, Act.put, List.setIfInBounds_toArray, List.set_cons_zero, List.set_cons_succ])
                refine wpAnyH_ready (rs := [11]) (by kernel_rfl) (by simp) ?_
                refine (AllReadyH.cons rfl (fun K' hK => ?_) AllReadyH.nil)
                obtain ⟨c1, c2, c3⟩ := CD.out
                go_simp
                (try go_split_ands)
                clear c1 c2 c3
                refine hK.out _ _ trivial (fun hHeld => ?_)
                clear hK K'
                (try simp only [List.getElem_toArray, List.getElem_cons_zero, List.getElem_cons_succ, Act.put, List.setIfInBounds_toArray, List.set_cons_zero, List.set_cons_succ])
                refine wpAnyH_ready (rs := [12]) (by kernel_rfl) (by simp) ?_
                refine (AllReadyH.cons rfl (fun K' hK => ?_) AllReadyH.nil)
                go_simp
                (try go_split_ands)
                obtain ⟨w22, hw2⟩ : ∃ z, z = wd.alloc (.cells #[.bool zb, .string zn, .slice q5 za d5] 47) := ⟨_, rfl⟩
                rw [← hw2]
                have J2 : Hid (Below wd.heap.size wd w22) := Lib.hid (by rw [hw2]; exact below_alloc _ _)
                have HB2 : Hid (Has w22 wd.heap.size #[.bool zb, .string zn, .slice q5 za d5]) := Lib.hid (by rw [hw2]; exact Has.new _ _ _)
                have hz2 : wd.heap.size + 1 ≤ w22.heap.size := by rw [hw2]; simp
                clear hw2
                have X2 := Lib.hid (Lt.below XD.out J2.out)
                have HD2 := Lib.hid (HD.out.step0 J2.out)
                have O2 := Lib.hid (own_lt (ex := fun _ => False) OD.out (Lt.of J2.out) (fun _ _ h => h))
                refine hK.out _ _ trivial (fun hHeld => ?_)
                clear hK K'
                (try simp only [List.getElem_toArray, List.getElem_cons_zero, List.getElem_cons_succ, Act.put, List.setIfInBounds_toArray, List.set_cons_zero, List.set_cons_succ])
              case' q7 =>
                obtain ⟨f1, f2, f3, f4, f5, f6, f7⟩ := UnpP.has3 HD.out
                go_simp
                (try go_split_ands)
                clear f1 f2 f3 f4 f5 f6 f7
                refine hK.out _ _ trivial (fun hHeld => ?_)
                clear hK K'
                (try simp only [List.getElem_toArray, List.getElem_cons_zero, List.getElem_cons_succ, Act.put, List.setIfInBounds_toArray, List.set_cons_zero, List.set_cons_succ])
                refine wpAnyH_take (i := 8) (v := ?_) rfl (by kernel_rfl) (by kernel_rfl) (by kernel_rfl) (fun _ _ _ h => h) (Or.inl ⟨by rfl, ?_⟩) (by assumption) ?_
                rotate_left
                · intro w' hSw; (try dsimp only at hSw); (try simp only [List.getElem_toArray, List.getElem_cons_zero, List.getElem_cons_succ]); go_simp; try with_reducible rfl
                (try simp only [List.getElem_toArray, List.getElem_cons_zero, List.getElem_cons_succ, Act.put, List.setIfInBounds_toArray, List.set_cons_zero, List.set_cons_succ])
                refine wpAnyH_take (i := 9) (v := ?_) rfl (by kernel_rfl) (by kernel_rfl) (by kernel_rfl) (fun _ _ _ h => h) (Or.inl ⟨by rfl, ?_⟩) (by assumption) ?_
                rotate_left
                · intro w' hSw; (try dsimp only at hSw); (try simp only [List.getElem_toArray, List.getElem_cons_zero, List.getElem_cons_succ]); go_simp; try with_reducible rfl
                (try simp only [List.getElem_toArray, List.getElem_cons_zero, List.getElem_cons_succ, Act.put, List.setIfInBounds_toArray, List.set_cons_zero, List.set_cons_succ])
                refine wpAnyH_ready (rs := [3]) (by kernel_rfl) (by simp) ?_
                refine (AllReadyH.cons rfl (fun K' hK => ?_) AllReadyH.nil)
                obtain ⟨f1, f2, f3, f4, f5, f6, f7⟩ := UnpP.has3 HD.out
                go_simp
                (try go_split_ands)
                clear f1 f2 f3 f4 f5 f6 f7
                refine hK.out _ _ trivial (fun hHeld => ?_)
                clear hK K'
                (try simp only [List.getElem_toArray, List.getElem_cons_zero, List.getElem_cons_succ, Act.put, List.setIfInBounds_toArray, List.set_cons_zero, List.set_cons_succ])
                refine wpAnyH_take (i := 10) (v := ?_) rfl (by kernel_rfl) (by kernel_rfl) (by kernel_rfl) (fun _ _ _ h => h) (Or.inl ⟨by rfl, ?_⟩) (by assumption) ?_
                rotate_left
                · intro w' hSw; (try dsimp only at hSw); (try simp only [List.getElem_toArray, List.getElem_cons_zero, List.getElem_cons_succ]); go_simp; try with_reducible rfl
                (try simp only [List.getElem_toArray, List.getElem_cons_zero, List.getElem_cons_succ, Act.put, List.setIfInBounds_toArray, List.set_cons_zero, List.set_cons_succ])
                refine wpAnyH_ready (rs := [11]) (by kernel_rfl) (by simp) ?_
                refine (AllReadyH.cons rfl (fun K' hK => ?_) AllReadyH.nil)
                obtain ⟨c1, c2, c3⟩ := CD.out
                go_simp
                (try go_split_ands)
                clear c1 c2 c3
                refine hK.out _ _ trivial (fun hHeld => ?_)
                clear hK K'
                (try simp only [List.getElem_toArray, List.getElem_cons_zero, List.getElem_cons_succ, Act.put, List.setIfInBounds_toArray, List.set_cons_zero, List.set_cons_succ])
                refine wpAnyH_ready (rs := [12]) (by kernel_rfl) (by simp) ?_
                refine (AllReadyH.cons rfl (fun K' hK => ?_) AllReadyH.nil)
                go_simp
                (try go_split_ands)
                obtain ⟨w22, hw2⟩ : ∃ z, z = wd.alloc (.cells #[.bool zb, .string zn, .slice q5 za d5] 47) := ⟨_, rfl⟩
                rw [← hw2]
                have J2 : Hid (Below wd.heap.size wd w22) := Lib.hid (by rw [hw2]; exact below_alloc _ _)
                have HB2 : Hid (Has w22 wd.heap.size #[.bool zb, .string zn, .slice q5 za d5]) := Lib.hid (by rw [hw2]; exact Has.new _ _ _)
                have hz2 : wd.heap.size + 1 ≤ w22.heap.size := by rw [hw2]; simp
                clear hw2
                have X2 := Lib.hid (Lt.below XD.out J2.out)
                have HD2 := Lib.hid (HD.out.step0 J2.out)
                have O2 := Lib.hid (own_lt (ex := fun _ => False) OD.out (Lt.of J2.out) (fun _ _ h => h))
                refine hK.out _ _ trivial (fun hHeld => ?_)
                clear hK K'
                (try simp only [List.getElem_toArray, List.getElem_cons_zero, List.getElem_cons_succ, Act.put, List.setIfInBounds_toArray, List.set_cons_zero, List.set_cons_succ])
            case' q4 =>
              obtain ⟨f1, f2, f3, f4, f5, f6, f7⟩ := UnpP.has3 HD.out
              go_simp
              (try go_split_ands)
              clear f1 f2 f3 f4 f5 f6 f7
              refine hK.out _ _ trivial (fun hHeld => ?_)
              clear hK K'
              (try simp only [List.getElem_toArray, List.getElem_cons_zero, List.getElem_cons_succ, Act.put, List.setIfInBounds_toArray, List.set_cons_zero, List.set_cons_succ])
              refine wpAnyH_ready (rs := [1, 7]) (by kernel_rfl) (by simp) ?_
              refine (AllReadyH.cons rfl (fun K' hK => ?q8) (AllReadyH.cons rfl (fun K' hK => ?q9) AllReadyH.nil))
              case' q8 =>
                obtain ⟨f1, f2, f3, f4, f5, f6, f7⟩ := UnpP.has3 HD.out
                go_simp
                (try go_split_ands)
                clear f1 f2 f3 f4 f5 f6 f7
                refine hK.out _ _ trivial (fun hHeld => ?_)
                clear hK K'
                (try simp only [List.getElem_toArray, List.getElem_cons_zero, List.getElem_cons_succ, Act.put, List.setIfInBounds_toArray, List.set_cons_zero, List.set_cons_succ])
                refine wpAnyH_ready (rs := [7]) (by kernel_rfl) (by simp) ?_
                refine (AllReadyH.cons rfl (fun K' hK => ?_) AllReadyH.nil)
                obtain ⟨f1, f2, f3, f4, f5, f6, f7⟩ := UnpP.has3 HD.out
                go_simp
                (try go_split_ands)
                clear f1 f2 f3 f4 f5 f6 f7
                refine hK.out _ _ trivial (fun hHeld => ?_)
                clear hK K'
                (try simp only [List.getElem_toArray, List.getElem_cons_zero, List.getElem_cons_succ, Act.put, List.setIfInBounds_toArray, List.set_cons_zero, List.set_cons_succ])
                refine wpAnyH_take (i := 8) (v := ?_) rfl (by kernel_rfl) (by kernel_rfl) (by kernel_rfl) (fun _ _ _ h => h) (Or.inl ⟨by rfl, ?_⟩) (by assumption) ?_
                rotate_left
                · intro w' hSw; (try dsimp only at hSw); (try simp only [List.getElem_toArray, List.getElem_cons_zero, List.getElem_cons_succ]); go_simp; try with_reducible rfl
                (try simp only [List.getElem_toArray, List.getElem_cons_zero, List.getElem_cons_succ, Act.put, List.setIfInBounds_toArray, List.set_cons_zero, List.set_cons_succ])
                refine wpAnyH_take (i := 9) (v := ?_) rfl (by kernel_rfl) (by kernel_rfl) (by kernel_rfl) (fun _ _ _ h => h) (Or.inl ⟨by rfl, ?_⟩) (by assumption) ?_
                rotate_left
                · intro w' hSw; (try dsimp only at hSw); (try simp only [List.getElem_toArray, List.getElem_cons_zero, List.getElem_cons_succ]); go_simp; try with_reducible rfl
                (try simp only [List.getElem_toArray, List.getElem_cons_zero, List.getElem_cons_succ, Act.put, List.setIfInBounds_toArray, List.set_cons_zero, List.set_cons_succ])
                refine wpAnyH_take (i := 10) (v := ?_) rfl (by kernel_rfl) (by kernel_rfl) (by kernel_rfl) (fun _ _ _ h => h) (Or.inl ⟨by rfl, ?_⟩) (by assumption) ?_
                rotate_left
                · intro w' hSw; (try dsimp only at hSw); (try simp only [List.getElem_toArray, List.getElem_cons_zero, List.getElem_cons_succ]); go_simp; try with_reducible rfl
                (try simp only [List.getElem_toArray, List.getElem_cons_zero, List.getElem_cons_succ, Act.put, List.setIfInBounds_toArray, List.set_cons_zero, List.set_cons_succ])
                refine wpAnyH_ready (rs := [11]) (by kernel_rfl) (by simp) ?_
                refine (AllReadyH.cons rfl (fun K' hK => ?_) AllReadyH.nil)
                obtain ⟨c1, c2, c3⟩ := CD.out
                go_simp
                (try go_split_ands)
                clear c1 c2 c3
                refine hK.out _ _ trivial (fun hHeld => ?_)
                clear hK K'
                (try simp only [List.getElem_toArray, List.getElem_cons_zero, List.getElem_cons_succ, Act.put, List.setIfInBounds_toArray, List.set_cons_zero, List.set_cons_succ])
                refine wpAnyH_ready (rs := [12]) (by kernel_rfl) (by simp) ?_
                refine (AllReadyH.cons rfl (fun K' hK => ?_) AllReadyH.nil)
                go_simp
                (try go_split_ands)
                obtain ⟨w22, hw2⟩ : ∃ z, z = wd.alloc (.cells #[.bool zb, .string zn, .slice q5 za d5] 47) := ⟨_, rfl⟩
                rw [← hw2]
                have J2 : Hid (Below wd.heap.size wd w22) := Lib.hid (by rw [hw2]; exact below_alloc _ _)
                have HB2 : Hid (Has w22 wd.heap.size #[.bool zb, .string zn, .slice q5 za d5]) := Lib.hid (by rw [hw2]; exact Has.new _ _ _)
                have hz2 : wd.heap.size + 1 ≤ w22.heap.size := by rw [hw2]; simp
                clear hw2
                have X2 := Lib.hid (Lt.below XD.out J2.out)
                have HD2 := Lib.hid (HD.out.step0 J2.out)
                have O2 := Lib.hid (own_lt (ex := fun _ => False) OD.out (Lt.of J2.out) (fun _ _ h => h))
                refine hK.out _ _ trivial (fun hHeld => ?_)
                clear hK K'
                (try simp only [List.getElem_toArray, List.getElem_cons_zero, List.getElem_cons_succ, Act.put, List.setIfInBounds_toArray, List.set_cons_zero, List.set_cons_succ])
              case' q9 =>
                obtain ⟨f1, f2, f3, f4, f5, f6, f7⟩ := UnpP.has3 HD.out
                go_simp
                (try go_split_ands)
                clear f1 f2 f3 f4 f5 f6 f7
                refine hK.out _ _ trivial (fun hHeld => ?_)
                clear hK K'
                (try simp only [List.getElem_toArray, List.getElem_cons_zero, List.getElem_cons_succ, Act.put, List.setIfInBounds_toArray, List.set_cons_zero, List.set_cons_succ])
                refine wpAnyH_take (i := 8) (v := ?_) rfl (by kernel_rfl) (by kernel_rfl) (by kernel_rfl) (fun _ _ _ h => h) (Or.inl ⟨by rfl, ?_⟩) (by assumption) ?_
                rotate_left
                · intro w' hSw; (try dsimp only at hSw); (try simp only [List.getElem_toArray, List.getElem_cons_zero, List.getElem_cons_succ]); go_simp; try with_reducible rfl
                (try simp only [List.getElem_toArray, List.getElem_cons_zero, List.getElem_cons_succ, Act.put, List.setIfInBounds_toArray, List.set_cons_zero, List.set_cons_succ])
                refine wpAnyH_take (i := 9) (v := ?_) rfl (by kernel_rfl) (by kernel_rfl) (by kernel_rfl) (fun _ _ _ h => h) (Or.inl ⟨by rfl, ?_⟩) (by assumption) ?_
                rotate_left
                · intro w' hSw; (try dsimp only at hSw); (try simp only [List.getElem_toArray, List.getElem_cons_zero, List.getElem_cons_succ]); go_simp; try with_reducible rfl
                (try simp only [List.getElem_toArray, List.getElem_cons_zero, List.getElem_cons_succ, Act.put, List.setIfInBounds_toArray, List.set_cons_zero, List.set_cons_succ])
                refine wpAnyH_take (i := 10) (v := ?_) rfl (by kernel_rfl) (by kernel_rfl) (by kernel_rfl) (fun _ _ _ h => h) (Or.inl ⟨by rfl, ?_⟩) (by assumption) ?_
                rotate_left
                · intro w' hSw; (try dsimp only at hSw); (try simp only [List.getElem_toArray, List.getElem_cons_zero, List.getElem_cons_succ]); go_simp; try with_reducible rfl
                (try simp only [List.getElem_toArray, List.getElem_cons_zero, List.getElem_cons_succ, Act.put, List.setIfInBounds_toArray, List.set_cons_zero, List.set_cons_succ])
                refine wpAnyH_ready (rs := [1, 11]) (by kernel_rfl) (by simp) ?_
                refine (AllReadyH.cons rfl (fun K' hK => ?q10) (AllReadyH.cons rfl (fun K' hK => ?q11) AllReadyH.nil))
                case' q10 =>
                  obtain ⟨f1, f2, f3, f4, f5, f6, f7⟩ := UnpP.has3 HD.out
                  go_simp
                  (try go_split_ands)
                  clear f1 f2 f3 f4 f5 f6 f7
                  refine hK.out _ _ trivial (fun hHeld => ?_)
                  clear hK K'
                  (try simp only [List.getElem_toArray, List.getElem_cons_zero, List.getElem_cons_succ, Act.put, List.setIfInBounds_toArray, List.set_cons_zero, List.set_cons_succ])
                  refine wpAnyH_ready (rs := [11]) (by kernel_rfl) (by simp) ?_
                  refine (AllReadyH.cons rfl (fun K' hK => ?_) AllReadyH.nil)
                  obtain ⟨c1, c2, c3⟩ := CD.out
                  go_simp
                  (try go_split_ands)
                  clear c1 c2 c3
                  refine hK.out _ _ trivial (fun hHeld => ?_)
                  clear hK K'
                  (try simp only [List.getElem_toArray, List.getElem_cons_zero, List.getElem_cons_succ, Act.put, List.setIfInBounds_toArray, List.set_cons_zero, List.set_cons_succ])
                  refine wpAnyH_ready (rs := [12]) (by kernel_rfl) (by simp) ?_
                  refine (AllReadyH.cons rfl (fun K' hK => ?_) AllReadyH.nil)
                  go_simp
                  (try go_split_ands)
                  obtain ⟨w22, hw2⟩ : ∃ z, z = wd.alloc (.cells #[.bool zb, .string zn, .slice q5 za d5] 47) := ⟨_, rfl⟩
                  rw [← hw2]
                  have J2 : Hid (Below wd.heap.size wd w22) := Lib.hid (by rw [hw2]; exact below_alloc _ _)
                  have HB2 : Hid (Has w22 wd.heap.size #[.bool zb, .string zn, .slice q5 za d5]) := Lib.hid (by rw [hw2]; exact Has.new _ _ _)
                  have hz2 : wd.heap.size + 1 ≤ w22.heap.size := by rw [hw2]; simp
                  clear hw2
                  have X2 := Lib.hid (Lt.below XD.out J2.out)
                  have HD2 := Lib.hid (HD.out.step0 J2.out)
                  have O2 := Lib.hid (own_lt (ex := fun _ => False) OD.out (Lt.of J2.out) (fun _ _ h => h))
                  refine hK.out _ _ trivial (fun hHeld => ?_)
                  clear hK K'
                  (try simp only [List.getElem_toArray, List.getElem_cons_zero, List.getElem_cons_succ, Act.put, List.setIfInBounds_toArray, List.set_cons_zero, List.set_cons_succ])
                case' q11 =>
                  obtain ⟨c1, c2, c3⟩ := CD.out
                  go_simp
                  (try go_split_ands)
                  clear c1 c2 c3
                  refine hK.out _ _ trivial (fun hHeld => ?_)
                  clear hK K'
                  (try simp only [List.getElem_toArray, List.getElem_cons_zero, List.getElem_cons_succ, Act.put, List.setIfInBounds_toArray, List.set_cons_zero, List.set_cons_succ])
                  refine wpAnyH_ready (rs := [1, 12]) (by kernel_rfl) (by simp) ?_
                  refine (AllReadyH.cons rfl (fun K' hK => ?q12) (AllReadyH.cons rfl (fun K' hK => ?q13) AllReadyH.nil))
                  case' q12 =>
                    obtain ⟨f1, f2, f3, f4, f5, f6, f7⟩ := UnpP.has3 HD.out
                    go_simp
                    (try go_split_ands)
                    clear f1 f2 f3 f4 f5 f6 f7
                    refine hK.out _ _ trivial (fun hHeld => ?_)
                    clear hK K'
                    (try simp only [List.getElem_toArray, List.getElem_cons_zero, List.getElem_cons_succ, Act.put, List.setIfInBounds_toArray, List.set_cons_zero, List.set_cons_succ])
                    refine wpAnyH_ready (rs := [12]) (by kernel_rfl) (by simp) ?_
                    refine (AllReadyH.cons rfl (fun K' hK => ?_) AllReadyH.nil)
                    go_simp
                    (try go_split_ands)
                    obtain ⟨w22, hw2⟩ : ∃ z, z = wd.alloc (.cells #[.bool zb, .string zn, .slice q5 za d5] 47) := ⟨_, rfl⟩
                    rw [← hw2]
                    have J2 : Hid (Below wd.heap.size wd w22) := Lib.hid (by rw [hw2]; exact below_alloc _ _)
                    have HB2 : Hid (Has w22 wd.heap.size #[.bool zb, .string zn, .slice q5 za d5]) := Lib.hid (by rw [hw2]; exact Has.new _ _ _)
                    have hz2 : wd.heap.size + 1 ≤ w22.heap.size := by rw [hw2]; simp
                    clear hw2
                    have X2 := Lib.hid (Lt.below XD.out J2.out)
                    have HD2 := Lib.hid (HD.out.step0 J2.out)
                    have O2 := Lib.hid (own_lt (ex := fun _ => False) OD.out (Lt.of J2.out) (fun _ _ h => h))
                    refine hK.out _ _ trivial (fun hHeld => ?_)
                    clear hK K'
                    (try simp only [List.getElem_toArray, List.getElem_cons_zero, List.getElem_cons_succ, Act.put, List.setIfInBounds_toArray, List.set_cons_zero, List.set_cons_succ])
                  case' q13 =>
                    go_simp
                    (try go_split_ands)
                    obtain ⟨w22, hw2⟩ : ∃ z, z = wd.alloc (.cells #[.bool zb, .string zn, .slice q5 za d5] 47) := ⟨_, rfl⟩
                    rw [← hw2]
                    have J2 : Hid (Below wd.heap.size wd w22) := Lib.hid (by rw [hw2]; exact below_alloc _ _)
                    have HB2 : Hid (Has w22 wd.heap.size #[.bool zb, .string zn, .slice q5 za d5]) := Lib.hid (by rw [hw2]; exact Has.new _ _ _)
                    have hz2 : wd.heap.size + 1 ≤ w22.heap.size := by rw [hw2]; simp
                    clear hw2
                    have X2 := Lib.hid (Lt.below XD.out J2.out)
                    have HD2 := Lib.hid (HD.out.step0 J2.out)
                    have O2 := Lib.hid (own_lt (ex := fun _ => False) OD.out (Lt.of J2.out) (fun _ _ h => h))
                    refine hK.out _ _ trivial (fun hHeld => ?_)
                    clear hK K'
                    (try simp only [List.getElem_toArray, List.getElem_cons_zero, List.getElem_cons_succ, Act.put, List.setIfInBounds_toArray, List.set_cons_zero, List.set_cons_succ])
                    refine wpAnyH_ready (rs := [1]) (by kernel_rfl) (by simp) ?_
                    refine (AllReadyH.cons rfl (fun K' hK => ?_) AllReadyH.nil)
                    obtain ⟨f1, f2, f3, f4, f5, f6, f7⟩ := UnpP.has3 HD2.out
                    go_simp
                    (try go_split_ands)
                    clear f1 f2 f3 f4 f5 f6 f7
                    refine hK.out _ _ trivial (fun hHeld => ?_)
                    clear hK K'
                    (try simp only [List.getElem_toArray, List.getElem_cons_zero, List.getElem_cons_succ, Act.put, List.setIfInBounds_toArray, List.set_cons_zero, List.set_cons_succ])
            case' q5 =>
              obtain ⟨f1, f2, f3, f4, f5, f6, f7⟩ := UnpP.has3 HD.out
              go_simp
              (try go_split_ands)
              clear f1 f2 f3 f4 f5 f6 f7
              refine hK.out _ _ trivial (fun hHeld => ?_)
              clear hK K'
              (try simp only [List.getElem_toArray, List.getElem_cons_zero, List.getElem_cons_succ, Act.put, List.setIfInBounds_toArray, List.set_cons_zero, List.set_cons_succ])
              refine wpAnyH_take (i := 8) (v := ?_) rfl (by kernel_rfl) (by kernel_rfl) (by kernel_rfl) (fun _ _ _ h => h) (Or.inl ⟨by rfl, ?_⟩) (by assumption) ?_
              rotate_left
              · intro w' hSw; (try dsimp only at hSw); (try simp only [List.getElem_toArray, List.getElem_cons_zero, List.getElem_cons_succ]); go_simp; try with_reducible rfl
              (try simp only [List.getElem_toArray, List.getElem_cons_zero, List.getElem_cons_succ, Act.put, List.setIfInBounds_toArray, List.set_cons_zero, List.set_cons_succ])
              refine wpAnyH_take (i := 9) (v := ?_) rfl (by kernel_rfl) (by kernel_rfl) (by kernel_rfl) (fun _ _ _ h => h) (Or.inl ⟨by rfl, ?_⟩) (by assumption) ?_
              rotate_left
              · intro w' hSw; (try dsimp only at hSw); (try simp only [List.getElem_toArray, List.getElem_cons_zero, List.getElem_cons_succ]); go_simp; try with_reducible rfl
              (try simp only [List.getElem_toArray, List.getElem_cons_zero, List.getElem_cons_succ, Act.put, List.setIfInBounds_toArray, List.set_cons_zero, List.set_cons_succ])
              refine wpAnyH_ready (rs := [1, 3]) (by kernel_rfl) (by simp) ?_
              refine (AllReadyH.cons rfl (fun K' hK => ?q14) (AllReadyH.cons rfl (fun K' hK => ?q15) AllReadyH.nil))
              case' q14 =>
                obtain ⟨f1, f2, f3, f4, f5, f6, f7⟩ := UnpP.has3 HD.out
                go_simp
                (try go_split_ands)
                clear f1 f2 f3 f4 f5 f6 f7
                refine hK.out _ _ trivial (fun hHeld => ?_)
                clear hK K'
                (try simp only [List.getElem_toArray, List.getElem_cons_zero, List.getElem_cons_succ, Act.put, List.setIfInBounds_toArray, List.set_cons_zero, List.set_cons_succ])
                refine wpAnyH_ready (rs := [3]) (by kernel_rfl) (by simp) ?_
                refine (AllReadyH.cons rfl (fun K' hK => ?_) AllReadyH.nil)
                obtain ⟨f1, f2, f3, f4, f5, f6, f7⟩ := UnpP.has3 HD.out
                go_simp
                (try go_split_ands)
                clear f1 f2 f3 f4 f5 f6 f7
                refine hK.out _ _ trivial (fun hHeld => ?_)
                clear hK K'
                (try simp only [List.getElem_toArray, List.getElem_cons_zero, List.getElem_cons_succ, Act.put, List.setIfInBounds_toArray, List.set_cons_zero, List.set_cons_succ])
                refine wpAnyH_take (i := 10) (v := ?_) rfl (by kernel_rfl) (by kernel_rfl) (by kernel_rfl) (fun _ _ _ h => h) (Or.inl ⟨by rfl, ?_⟩) (by assumption) ?_
                rotate_left
                · intro w' hSw; (try dsimp only at hSw); (try simp only [List.getElem_toArray, List.getElem_cons_zero, List.getElem_cons_succ]); go_simp; try with_reducible rfl
                (try simp only [List.getElem_toArray, List.getElem_cons_zero, List.getElem_cons_succ, Act.put, List.setIfInBounds_toArray, List.set_cons_zero, List.set_cons_succ])
                refine wpAnyH_ready (rs := [11]) (by kernel_rfl) (by simp) ?_
                refine (AllReadyH.cons rfl (fun K' hK => ?_) AllReadyH.nil)
                obtain ⟨c1, c2, c3⟩ := CD.out
                go_simp
                (try go_split_ands)
                clear c1 c2 c3
                refine hK.out _ _ trivial (fun hHeld => ?_)
                clear hK K'
                (try simp only [List.getElem_toArray, List.getElem_cons_zero, List.getElem_cons_succ, Act.put, List.setIfInBounds_toArray, List.set_cons_zero, List.set_cons_succ])
                refine wpAnyH_ready (rs := [12]) (by kernel_rfl) (by simp) ?_
                refine (AllReadyH.cons rfl (fun K' hK => ?_) AllReadyH.nil)
                go_simp
                (try go_split_ands)
                obtain ⟨w22, hw2⟩ : ∃ z, z = wd.alloc (.cells #[.bool zb, .string zn, .slice q5 za d5] 47) := ⟨_, rfl⟩
                rw [← hw2]
                have J2 : Hid (Below wd.heap.size wd w22) := Lib.hid (by rw [hw2]; exact below_alloc _ _)
                have HB2 : Hid (Has w22 wd.heap.size #[.bool zb, .string zn, .slice q5 za d5]) := Lib.hid (by rw [hw2]; exact Has.new _ _ _)
                have hz2 : wd.heap.size + 1 ≤ w22.heap.size := by rw [hw2]; simp
                clear hw2
                have X2 := Lib.hid (Lt.below XD.out J2.out)
                have HD2 := Lib.hid (HD.out.step0 J2.out)
                have O2 := Lib.hid (own_lt (ex := fun _ => False) OD.out (Lt.of J2.out) (fun _ _ h => h))
                refine hK.out _ _ trivial (fun hHeld => ?_)
                clear hK K'
                (try simp only [List.getElem_toArray, List.getElem_cons_zero, List.getElem_cons_succ, Act.put, List.setIfInBounds_toArray, List.set_cons_zero, List.set_cons_succ])
              case' q15 =>
                obtain ⟨f1, f2, f3, f4, f5, f6, f7⟩ := UnpP.has3 HD.out
                go_simp
                (try go_split_ands)
                clear f1 f2 f3 f4 f5 f6 f7
                refine hK.out _ _ trivial (fun hHeld => ?_)
                clear hK K'
                (try simp only [List.getElem_toArray, List.getElem_cons_zero, List.getElem_cons_succ, Act.put, List.setIfInBounds_toArray, List.set_cons_zero, List.set_cons_succ])
                refine wpAnyH_take (i := 10) (v := ?_) rfl (by kernel_rfl) (by kernel_rfl) (by kernel_rfl) (fun _ _ _ h => h) (Or.inl ⟨by rfl, ?_⟩) (by assumption) ?_
                rotate_left
                · intro w' hSw; (try dsimp only at hSw); (try simp only [List.getElem_toArray, List.getElem_cons_zero, List.getElem_cons_succ]); go_simp; try with_reducible rfl
                (try simp only [List.getElem_toArray, List.getElem_cons_zero, List.getElem_cons_succ, Act.put, List.setIfInBounds_toArray, List.set_cons_zero, List.set_cons_succ])
                refine wpAnyH_ready (rs := [1, 11]) (by kernel_rfl) (by simp) ?_
                refine (AllReadyH.cons rfl (fun K' hK => ?q16) (AllReadyH.cons rfl (fun K' hK => ?q17) AllReadyH.nil))
                case' q16 =>
                  obtain ⟨f1, f2, f3, f4, f5, f6, f7⟩ := UnpP.has3 HD.out
                  go_simp
                  (try go_split_ands)
                  clear f1 f2 f3 f4 f5 f6 f7
                  refine hK.out _ _ trivial (fun hHeld => ?_)
                  clear hK K'
                  (try simp only [List.getElem_toArray, List.getElem_cons_zero, List.getElem_cons_succ, Act.put, List.setIfInBounds_toArray, List.set_cons_zero, List.set_cons_succ])
                  refine wpAnyH_ready (rs := [11]) (by kernel_rfl) (by simp) ?_
                  refine (AllReadyH.cons rfl (fun K' hK => ?_) AllReadyH.nil)
                  obtain ⟨c1, c2, c3⟩ := CD.out
                  go_simp
                  (try go_split_ands)
                  clear c1 c2 c3
                  refine hK.out _ _ trivial (fun hHeld => ?_)
                  clear hK K'
                  (try simp only [List.getElem_toArray, List.getElem_cons_zero, List.getElem_cons_succ, Act.put, List.setIfInBounds_toArray, List.set_cons_zero, List.set_cons_succ])
                  refine wpAnyH_ready (rs := [12]) (by kernel_rfl) (by simp) ?_
                  refine (AllReadyH.cons rfl (fun K' hK => ?_) AllReadyH.nil)
                  go_simp
                  (try go_split_ands)
                  obtain ⟨w22, hw2⟩ : ∃ z, z = wd.alloc (.cells #[.bool zb, .string zn, .slice q5 za d5] 47) := ⟨_, rfl⟩
                  rw [← hw2]
                  have J2 : Hid (Below wd.heap.size wd w22) := Lib.hid (by rw [hw2]; exact below_alloc _ _)
                  have HB2 : Hid (Has w22 wd.heap.size #[.bool zb, .string zn, .slice q5 za d5]) := Lib.hid (by rw [hw2]; exact Has.new _ _ _)
                  have hz2 : wd.heap.size + 1 ≤ w22.heap.size := by rw [hw2]; simp
                  clear hw2
                  have X2 := Lib.hid (Lt.below XD.out J2.out)
                  have HD2 := Lib.hid (HD.out.step0 J2.out)
                  have O2 := Lib.hid (own_lt (ex := fun _ => False) OD.out (Lt.of J2.out) (fun _ _ h => h))
                  refine hK.out _ _ trivial (fun hHeld => ?_)
                  clear hK K'
                  (try simp only [List.getElem_toArray, List.getElem_cons_zero, List.getElem_cons_succ, Act.put, List.setIfInBounds_toArray, List.set_cons_zero, List.set_cons_succ])
                case' q17 =>
                  obtain ⟨c1, c2, c3⟩ := CD.out
                  go_simp
                  (try go_split_ands)
                  clear c1 c2 c3
                  refine hK.out _ _ trivial (fun hHeld => ?_)
                  clear hK K'
                  (try simp only [List.getElem_toArray, List.getElem_cons_zero, List.getElem_cons_succ, Act.put, List.setIfInBounds_toArray, List.set_cons_zero, List.set_cons_succ])
                  refine wpAnyH_ready (rs := [1, 12]) (by kernel_rfl) (by simp) ?_
                  refine (AllReadyH.cons rfl (fun K' hK => ?q18) (AllReadyH.cons rfl (fun K' hK => ?q19) AllReadyH.nil))
                  case' q18 =>
                    obtain ⟨f1, f2, f3, f4, f5, f6, f7⟩ := UnpP.has3 HD.out
                    go_simp
                    (try go_split_ands)
                    clear f1 f2 f3 f4 f5 f6 f7
                    refine hK.out _ _ trivial (fun hHeld => ?_)
                    clear hK K'
                    (try simp only [List.getElem_toArray, List.getElem_cons_zero, List.getElem_cons_succ, Act.put, List.setIfInBounds_toArray, List.set_cons_zero, List.set_cons_succ])
                    refine wpAnyH_ready (rs := [12]) (by kernel_rfl) (by simp) ?_
                    refine (AllReadyH.cons rfl (fun K' hK => ?_) AllReadyH.nil)
                    go_simp
                    (try go_split_ands)
                    obtain ⟨w22, hw2⟩ : ∃ z, z = wd.alloc (.cells #[.bool zb, .string zn, .slice q5 za d5] 47) := ⟨_, rfl⟩
                    rw [← hw2]
                    have J2 : Hid (Below wd.heap.size wd w22) := Lib.hid (by rw [hw2]; exact below_alloc _ _)
                    have HB2 : Hid (Has w22 wd.heap.size #[.bool zb, .string zn, .slice q5 za d5]) := Lib.hid (by rw [hw2]; exact Has.new _ _ _)
                    have hz2 : wd.heap.size + 1 ≤ w22.heap.size := by rw [hw2]; simp
                    clear hw2
                    have X2 := Lib.hid (Lt.below XD.out J2.out)
                    have HD2 := Lib.hid (HD.out.step0 J2.out)
                    have O2 := Lib.hid (own_lt (ex := fun _ => False) OD.out (Lt.of J2.out) (fun _ _ h => h))
                    refine hK.out _ _ trivial (fun hHeld => ?_)
                    clear hK K'
                    (try simp only [List.getElem_toArray, List.getElem_cons_zero, List.getElem_cons_succ, Act.put, List.setIfInBounds_toArray, List.set_cons_zero, List.set_cons_succ])
                  case' q19 =>
                    go_simp
                    (try go_split_ands)
                    obtain ⟨w22, hw2⟩ : ∃ z, z = wd.alloc (.cells #[.bool zb, .string zn, .slice q5 za d5] 47) := ⟨_, rfl⟩
                    rw [← hw2]
                    have J2 : Hid (Below wd.heap.size wd w22) := Lib.hid (by rw [hw2]; exact below_alloc _ _)
                    have HB2 : Hid (Has w22 wd.heap.size #[.bool zb, .string zn, .slice q5 za d5]) := Lib.hid (by rw [hw2]; exact Has.new _ _ _)
                    have hz2 : wd.heap.size + 1 ≤ w22.heap.size := by rw [hw2]; simp
                    clear hw2
                    have X2 := Lib.hid (Lt.below XD.out J2.out)
                    have HD2 := Lib.hid (HD.out.step0 J2.out)
                    have O2 := Lib.hid (own_lt (ex := fun _ => False) OD.out (Lt.of J2.out) (fun _ _ h => h))
                    refine hK.out _ _ trivial (fun hHeld => ?_)
                    clear hK K'
                    (try simp only [List.getElem_toArray, List.getElem_cons_zero, List.getElem_cons_succ, Act.put, List.setIfInBounds_toArray, List.set_cons_zero, List.set_cons_succ])
                    refine wpAnyH_ready (rs := [1]) (by kernel_rfl) (by simp) ?_
                    refine (AllReadyH.cons rfl (fun K' hK => ?_) AllReadyH.nil)
                    obtain ⟨f1, f2, f3, f4, f5, f6, f7⟩ := UnpP.has3 HD2.out
                    go_simp
                    (try go_split_ands)
                    clear f1 f2 f3 f4 f5 f6 f7
                    refine hK.out _ _ trivial (fun hHeld => ?_)
                    clear hK K'
                    (try simp only [List.getElem_toArray, List.getElem_cons_zero, List.getElem_cons_succ, Act.put, List.setIfInBounds_toArray, List.set_cons_zero, List.set_cons_succ])
            all_goals
              refine wpAnyH_ready (rs := [13]) (by kernel_rfl) (by simp) ?_
              refine (AllReadyH.cons rfl (fun K' hK => ?_) AllReadyH.nil)
              refine step_append_lies _ rfl _ _ 25 rfl (R + 1) 47 i0 (.agg #[.bool false, .string ⟨#[]⟩, .slice none 0 0]) 3 48 Tryz.underlying25 hi0 hi1 hi2 hi3 rfl (by decide) (.slice (some ⟨gv, 0, none⟩) F.length vc) F.length (KL.flat F) rfl O2.out ⟨wd.heap.size, 0, none⟩ 1 1 [.bool zb, .string zn, .slice q5 za d5] rfl rfl (World.news_of_block HB2.out.choose_spec) (one_L _ _ _ _ _) (by decide) A1 A2 (show R + 1 ≤ w22.heap.size by omega) _ rfl ?_
              intro g9 c9 w9 hown hgrow hat hlt9
              have X9 := Lib.hid (Lt.grown X2.out hgrow (fun k e => Or.inr (by have := (hvl.out k e).1; omega)))
              have L9 : Hid (Lt (fun b => (Value.slice (some ⟨gv, 0, none⟩) F.length vc).ownBlock = some b) w22 w9) := Lib.hid (Lt.grown (Lt.of (Below.refl _ _)) hgrow (fun k e => Or.inl e))
              have HR9 := Lib.hid (L9.out.has HD2.out (fun e => by have := (hvl.out _ e).1; omega))
              have O9 := Lib.hid hown
              clear hown hgrow hat
              refine hK.out _ _ trivial (fun hHeld => ?_)
              clear hK K'
              (try simp only [List.getElem_toArray, List.getElem_cons_zero, List.getElem_cons_succ, Act.put, List.setIfInBounds_toArray, List.set_cons_zero, List.set_cons_succ])
              refine wpAnyH_take (i := 14) (v := ?_) rfl (by kernel_rfl) (by kernel_rfl) (by kernel_rfl) (fun _ _ _ h => h) (Or.inl ⟨by rfl, ?_⟩) (by assumption) ?_
              rotate_left
              · intro w' hSw; (try dsimp only at hSw); (try simp only [List.getElem_toArray, List.getElem_cons_zero, List.getElem_cons_succ]); go_simp; try with_reducible rfl
              (try simp only [List.getElem_toArray, List.getElem_cons_zero, List.getElem_cons_succ, Act.put, List.setIfInBounds_toArray, List.set_cons_zero, List.set_cons_succ])
              refine wpAnyH_ready (rs := [15]) (by kernel_rfl) (by simp) ?_
              refine (AllReadyH.cons rfl (fun K' hK => ?_) AllReadyH.nil)
              obtain ⟨f1, f2, f3, f4, f5, f6, f7⟩ := UnpP.has3 HR9.out
              go_simp
              (try go_split_ands)
              obtain ⟨w10, hw10⟩ : ∃ z, z = w9.setCell ⟨R, 2, none⟩ (.slice (some ⟨g9, 0, none⟩) (F.length + 1) c9) := ⟨_, rfl⟩
              rw [← hw10]
              have X10 : Hid (Lt (fun b => b = R) W9 w10) := Lib.hid (by rw [hw10]; exact X9.out.put (Or.inl rfl) _)
              have HR10 : Hid (Has w10 R #[.string yn, .slice q6 ya d6, .slice (some ⟨g9, 0, none⟩) (F.length + 1) c9]) := Lib.hid (by rw [hw10]; exact HR9.out.set 2 _)
              have O10 : Hid (w10.ownsRow (R + 1) KL.ty 3 (.slice (some ⟨g9, 0, none⟩) (F.length + 1) c9) (F.length + 1) (KL.flat F ++ [.bool zb, .string zn, .slice q5 za d5])) := Lib.hid (own_lt (ex := (· = R)) O9.out (by rw [hw10]; exact Lt.put (ex := (· = R)) (p := ⟨R, 2, none⟩) (Lt.of (Below.refl _ _)) (Or.inl rfl) _) (fun k e => by have := (O9.out.lt k e).1; omega))
              clear hw10 f1 f2 f3 f4 f5 f6 f7
              refine hK.out _ _ trivial (fun hHeld => ?_)
              clear hK K'
              (try simp only [List.getElem_toArray, List.getElem_cons_zero, List.getElem_cons_succ, Act.put, List.setIfInBounds_toArray, List.set_cons_zero, List.set_cons_succ])
              refine wpAnyH_done (by kernel_rfl) ?_ _
              go_wp2_with fail
              go_meet
              exact ⟨rfl, F ++ [zl], _, by rw [List.length_append, List.length_singleton]; omega, Lib.hid (hO8.out _ _ O10.out), hI8, hM8, HR10, X10⟩
        case rest =>
          clear MEM h8 hO hI hH hX HC DX
          obtain ⟨rfl, F', v', h8, hO, hI, MEM, hH, hX⟩ := hcut
          generalize hwx : wc = wx at *
          clear hwx
          obtain ⟨va', vc', rfl⟩ := own_formL hO.out
          have hzx := hX.out.size
          have DX := Lib.hid (D9.out.trans (hX.out.toBelow (B := W2.heap.size) (by omega) (fun i e => by omega)))
          have HPx := Lib.hid (hX.out.has HP9.out (show ¬ w.heap.size = R by omega))
          have HXx := Lib.hid (hX.out.has HX9.out (show ¬ w4.heap.size = R by omega))
          have OL := Lib.hid (row_mixL hO.out (B := R) (by omega) (fun z hz => KL.keep (hI.out z hz) (fun b o hb => hX.out.cell (show b < W9.heap.size by omega) (show ¬ b = R by omega))))
          have OS := Lib.hid ((SY.out wx hX.out).weaken (ok' := (· < wx.heap.size)) fun b hb => by omega)
          have SXx := Lib.hid (SX.out wx hX.out)
          have LXx := Lib.hid (LX.out wx hX.out)
          obtain ⟨on1, on2⟩ := ON0.out (y.1, F'.map (·.1)) rfl MEM.out (by rw [List.length_map]; exact h8)
          have OC := Lib.hid on1
          have OE := Lib.hid on2
          have OEE := Lib.hid on2
          have RO := Lib.hid (rule_any y.1 (F'.map (·.1)) wx.heap.size wx _ _ (Nat.le_refl _) OS.out OL.out (by rw [HYN.out]; exact NY.out))
          unfold NfR at RO
          rw [HYN.out, on1] at RO
          have OL2 : Hid (∀ w', Below wx.heap.size wx w' → LIn (· < w'.heap.size) w' (F'.map (·.1)) (.slice va' F'.length vc')) := Lib.hid (fun w' k => (OL.out.keep fun b o hb => k.cell (p := ⟨b, o, none⟩) hb).wide fun b hb => Nat.lt_of_lt_of_le hb k.size)
          have OS2 : Hid (∀ w', Below wx.heap.size wx w' → SlIn (· < w'.heap.size) w' y.1.args (.slice q6 ya d6)) := Lib.hid (fun w' k => (OS.out.frame fun b o hb => k.cell (p := ⟨b, o, none⟩) hb).weaken fun b hb => Nat.lt_of_lt_of_le hb k.size)
          have SMo := Lib.hid (fun w' (k : Below wx.heap.size wx w') => SM.out w' (next0 DX.out k) (y.1, F'.map (·.1)) _ _ (OS2.out w' k) (OL2.out w' k) (by show y.1.nm.size ≤ maxLen; rw [HYN.out]; exact NY.out))
          dsimp only at SMo
          rw [HYN.out] at SMo
          have EO := Lib.hid (fun R' c' (h : EqOf [r] [(y.1, F'.map (·.1))] R' c') => eq_one h HCR.out on1)
          clear SM ON0 SY SX LX hX hI MEM OL OS OL2 OS2 on1 on2 HY9 hO HP9 HX9
          obtain ⟨s1, s2, s3, s4, s5, s6, s7⟩ := UnpP.has3 hH.out
          go_wp2_with fail
          refine RO.out.mono ?_
          rintro e w7 ⟨z, q7, d7, v7, rfl, hnf7, hs7, hl7, hn7, k7⟩
          obtain rfl : z = x := nf_det ((OE.out z).1 hnf7) NF.out
          obtain ⟨p7, e7, rfl⟩ := hl7.form
          obtain ⟨W10, hW10⟩ : ∃ u, u = w7.alloc (.cells #[.string z.1.nm, .slice q7 z.1.args.length d7, .slice p7 z.2.length e7] 27) := ⟨_, rfl⟩
          have J10 : Hid (Below w7.heap.size w7 W10) := Lib.hid (by rw [hW10]; exact below_alloc _ _)
          have HZ : Hid (Has W10 w7.heap.size #[.string z.1.nm, .slice q7 z.1.args.length d7, .slice p7 z.2.length e7]) := Lib.hid (by rw [hW10]; exact Has.new _ _ _)
          have hz10 : w7.heap.size + 1 ≤ W10.heap.size := by rw [hW10]; simp
          have k7s := k7.size
          have K10 := Lib.hid (next0 k7 J10.out)
          have SM1 := Lib.hid (SMo.out W10 K10.out)
          unfold EqR at SM1
          have PR := Lib.hid (fun w' (k : Below W10.heap.size W10 w') => rule_eq z.1 z.1 z.2 z.2 true (by simp) W10.heap.size w' (.slice q4 z.1.args.length d4) (.slice q7 z.1.args.length d7) (.slice p4 z.2.length e4) (.slice p7 z.2.length e7) k.size
            ((SXx.out.frame fun b o hb => (next0 K10.out k).cell (p := ⟨b, o, none⟩) (show b < wx.heap.size by omega)).weaken fun b hb => by omega)
            ((hs7.frame fun b o hb => (next0 J10.out k).cell (p := ⟨b, o, none⟩) hb.2).weaken fun b hb => by have := hb.2; omega)
            ((LXx.out.keep fun b o hb => (next0 K10.out k).cell (p := ⟨b, o, none⟩) (show b < wx.heap.size by omega)).wide fun b hb => by omega)
            ((hl7.keep fun b o hb => (next0 J10.out k).cell (p := ⟨b, o, none⟩) hb.2).wide fun b hb => by have := hb.2; omega))
          have HP10 := Lib.hid (HPx.out.step0 K10.out)
          have HX10 := Lib.hid (HXx.out.step0 K10.out)
          have HR10 := Lib.hid (hH.out.step0 K10.out)
          have D10 := Lib.hid (next0 DX.out K10.out)
          clear hnf7 hs7 hl7 hn7 k7 SMo RO SXx LXx s1 s2 s3 s4 s5 s6 s7 hH HPx HXx NF OE
          generalize z.1.nm = zn at *
          generalize z.1.args.length = za at *
          generalize z.2.length = zb at *
          go_upto_region 17 with fail
          rw [← hW10]
          clear hW10
          obtain ⟨s1, s2, s3, s4, s5, s6, s7⟩ := UnpP.has3 HP10.out
          obtain ⟨t1, t2, t3, t4, t5, t6, t7⟩ := UnpP.has3 HR10.out
          go_wp2_with fail
          refine SM1.out.mono ?_
          rintro e w11 ⟨R1, c1, rfl, hE, k11⟩
          obtain ⟨rfl, hR1⟩ := EO.out _ _ hE
          obtain rfl : R1 = true := hR1.2 (fun u => (OEE.out u).symm)
          have HX11 := Lib.hid (HX10.out.step0 k11)
          have HZ11 := Lib.hid (HZ.out.step0 k11)
          have D11 := Lib.hid (next0 D10.out k11)
          have P11 := Lib.hid (PR.out w11 k11)
          clear hE hR1 k11 EO PR SM1 HX10 HZ s1 s2 s3 s4 s5 s6 s7 t1 t2 t3 t4 t5 t6 t7 HP10 HR10
          obtain ⟨s1, s2, s3, s4, s5, s6, s7⟩ := UnpP.has3 HX11.out
          obtain ⟨t1, t2, t3, t4, t5, t6, t7⟩ := UnpP.has3 HZ11.out
          go_wp2_with fail
          refine P11.out.mono ?_
          rintro e w12 ⟨rfl, g12⟩
          have D12 := Lib.hid (next0 D11.out g12.1)
          clear g12 s1 s2 s3 s4 s5 s6 s7 t1 t2 t3 t4 t5 t6 t7
          go_wp2_with fail
          refine (CA.out _ D12.out).mono ?_
          rintro e w13 ⟨rfl, k13⟩
          have D13 := Lib.hid (QW.out _ (next0 D12.out k13))
          clear k13
          go_wp2_with fail
          go_ret
          exact ⟨rfl, D13.out⟩
end NolJ
end Go.Proofs.YtikkaiiinkeobaaGreatDoor
