/- The reference's Same. No conditions. -/
import Derived.Test.YtdkpflojdnkbnaaGreatDoorHNolN
import Derived.Test.YtdkpflojdnkbnaaGreatDoorHCE
namespace Go.Proofs.YtdkpflojdnkbnaaGreatDoor
open Go Go.RowKit
namespace NolO
open Kit LexM TermM TermI TermN TermU UniK UniM UnpP NorM NosF NosV NosI NolN
theorem eq_rules {a b x y : Rl} (hx : NfOf a x) (hy : NfOf b y) (h1 : codeN a = 0) (h2 : codeN b = 0) : EqOf [a] [b] (cmpR x y == 0) 0 := by
  refine ⟨fun e => absurd (by rw [code_one]; exact h1) e, fun _ e => absurd (by rw [code_one]; exact h2) e, fun _ _ => ⟨rfl, ?_⟩⟩
  have key : (cmpR x y == 0) = true ↔ x = y := by rw [beq_iff_eq]; exact r_zero x y
  rw [key]
  simp only [List.mem_singleton, exists_eq_left]
  constructor
  · rintro rfl z
    exact ⟨fun h => by rw [nf_det h hx]; exact hy, fun h => by rw [nf_det h hy]; exact hx⟩
  · intro h
    exact nf_det ((h x).1 hx) hy
theorem eq_bad1 {a b : Rl} (h : codeN a ≠ 0) : EqOf [a] [b] false (codeN a) :=
  ⟨fun _ => ⟨rfl, (code_one a).symm⟩, fun e => absurd ((code_one a).symm.trans e) h, fun e => absurd ((code_one a).symm.trans e) h⟩
theorem eq_bad2 {a b : Rl} (h0 : codeN a = 0) (h : codeN b ≠ 0) : EqOf [a] [b] false (codeN b) :=
  ⟨fun e => absurd ((code_one a).trans h0) e, fun _ _ => ⟨rfl, (code_one b).symm⟩, fun _ e => absurd ((code_one b).symm.trans e) h⟩
set_option maxRecDepth 100000 in
set_option maxHeartbeats 6400000 in
theorem rsame_any (a b : Rl) (B : Nat) (w : World) (sa sl sb sm : Value) (hB : B ≤ w.heap.size) (h1 : SlIn (· < B) w a.1.args sa) (h2 : LIn (· < B) w a.2 sl) (hn : a.1.nm.size ≤ maxLen) (h1' : SlIn (· < B) w b.1.args sb) (h2' : LIn (· < B) w b.2 sm) (hn' : b.1.nm.size ≤ maxLen) :
    Calls Tryz.prog 17 #[.agg #[.string a.1.nm, sa, sl], .agg #[.string b.1.nm, sb, sm]] w (EqR [a] [b] w) := by
  obtain ⟨p1, c1, rfl⟩ := h1.form
  obtain ⟨p2, c2, rfl⟩ := h2.form
  obtain ⟨p3, c3, rfl⟩ := h1'.form
  obtain ⟨p4, c4, rfl⟩ := h2'.form
  obtain ⟨W2, hW2⟩ : ∃ W2, W2 = (w.alloc (.cells #[.string a.1.nm, .slice p1 a.1.args.length c1, .slice p2 a.2.length c2] 27)).alloc (.cells #[.string b.1.nm, .slice p3 b.1.args.length c3, .slice p4 b.2.length c4] 27) := ⟨_, rfl⟩
  have B2 : Hid (Below w.heap.size w W2) := Lib.hid (by rw [hW2]; exact next0 (below_alloc _ _) (below_alloc _ _))
  have H2 : Hid (Has W2 w.heap.size #[.string a.1.nm, .slice p1 a.1.args.length c1, .slice p2 a.2.length c2]) := Lib.hid (by rw [hW2]; exact (Has.new w _ _).alloc _)
  have E2 : Hid (Has W2 (w.heap.size + 1) #[.string b.1.nm, .slice p3 b.1.args.length c3, .slice p4 b.2.length c4]) := Lib.hid (by rw [hW2]; exact Has.new1 w _ _ _)
  have hz2 : w.heap.size + 2 ≤ W2.heap.size := by rw [hW2]; simp
  have fr : ∀ w', Below w.heap.size w w' → ∀ (b o : Nat), b < B → w'.cell? ⟨b, o, none⟩ = w.cell? ⟨b, o, none⟩ := fun w' k b o hb => k.cell (p := ⟨b, o, none⟩) (Nat.lt_of_lt_of_le hb hB)
  have CA := Lib.hid (rrule_any a.1 a.2 B W2 _ _ (Nat.le_trans hB B2.out.size) (h1.frame (fr W2 B2.out)) (h2.keep (fr W2 B2.out)) hn)
  have CB := Lib.hid (fun w' (k : Below w.heap.size w w') => rrule_any b.1 b.2 B w' _ _ (Nat.le_trans hB k.size) (h1'.frame (fr w' k)) (h2'.keep (fr w' k)) hn')
  have ea : (a.1, a.2) = a := rfl
  have eb : (b.1, b.2) = b := rfl
  rw [ea] at CA
  rw [eb] at CB
  unfold NfR at CA CB
  unfold EqR
  have EA := Lib.hid (fun (h : codeN a ≠ 0) => eq_bad1 (b := b) h)
  have EB := Lib.hid (fun (h0 : codeN a = 0) (h : codeN b ≠ 0) => eq_bad2 h0 h)
  have EC := Lib.hid (fun (x y : Rl) (hx : NfOf a x) (hy : NfOf b y) (h1 : codeN a = 0) (h2 : codeN b = 0) => eq_rules hx hy h1 h2)
  clear h1 h2 h1' h2' hn hn' fr ea eb
  generalize a.1.nm = an at *
  generalize b.1.nm = bn at *
  generalize a.1.args.length = aa at *
  generalize b.1.args.length = ba at *
  generalize a.2.length = al at *
  generalize b.2.length = bl at *
  generalize codeN a = k1 at *
  generalize codeN b = k2 at *
  obtain ⟨y1, y2, y3, y4, y5, y6, y7⟩ := UnpP.has3 H2.out
  go_enter Tryz.func17, Tryz.ntmps17
  go_upto_region 1 with fail
  rw [← hW2]
  clear hW2
  go_wp2_with fail
  refine CA.out.mono ?_
  rintro e w3 ⟨x, q3, d3, v3, rfl, hnf, hs3, hl3, hn3, k3⟩
  obtain ⟨r3, t3, rfl⟩ := hl3.form
  obtain ⟨W4, hW4⟩ : ∃ z, z = w3.alloc (.cells #[.string x.1.nm, .slice q3 x.1.args.length d3, .slice r3 x.2.length t3] 27) := ⟨_, rfl⟩
  have J4 : Hid (Below w3.heap.size w3 W4) := Lib.hid (by rw [hW4]; exact below_alloc _ _)
  have H4 : Hid (Has W4 w3.heap.size #[.string x.1.nm, .slice q3 x.1.args.length d3, .slice r3 x.2.length t3]) := Lib.hid (by rw [hW4]; exact Has.new _ _ _)
  have hz4 : W4.heap.size = w3.heap.size + 1 := by rw [hW4]; simp
  have K4 := Lib.hid (next0 (next0 B2.out k3) J4.out)
  have E4 := Lib.hid ((E2.out.step0 k3).step0 J4.out)
  have S4 := Lib.hid (hs3.frame (w' := W4) fun b o hb => J4.out.cell (p := ⟨b, o, none⟩) hb.2)
  have L4 := Lib.hid (hl3.keep (w' := W4) fun b o hb => J4.out.cell (p := ⟨b, o, none⟩) hb.2)
  have NX := Lib.hid hnf
  have N3 := Lib.hid hn3
  clear hnf hs3 hl3 hn3 k3 CA y1 y2 y3 y4 y5 y6 y7 H2 E2
  go_upto_region 2 with fail
  rw [← hW4]
  clear hW4
  by_cases hk1 : k1 = 0
  · have CB4 := Lib.hid (CB.out W4 K4.out)
    obtain ⟨y1, y2, y3, y4, y5, y6, y7⟩ := UnpP.has3 E4.out
    have EB1 := Lib.hid (EB.out hk1)
    have EC1 := Lib.hid (fun x y hx hy => EC.out x y hx hy hk1)
    subst hk1
    clear CB EA EB EC
    go_wp2_with fail
    refine CB4.out.mono ?_
    rintro e w5 ⟨y, q5, d5, v5, rfl, hnf5, hs5, hl5, hn5, k5⟩
    obtain ⟨r5, t5, rfl⟩ := hl5.form
    obtain ⟨W6, hW6⟩ : ∃ z, z = w5.alloc (.cells #[.string y.1.nm, .slice q5 y.1.args.length d5, .slice r5 y.2.length t5] 27) := ⟨_, rfl⟩
    have J6 : Hid (Below w5.heap.size w5 W6) := Lib.hid (by rw [hW6]; exact below_alloc _ _)
    have H6 : Hid (Has W6 w5.heap.size #[.string y.1.nm, .slice q5 y.1.args.length d5, .slice r5 y.2.length t5]) := Lib.hid (by rw [hW6]; exact Has.new _ _ _)
    have hz6 : W6.heap.size = w5.heap.size + 1 := by rw [hW6]; simp
    have G6 := Lib.hid (next0 k5 J6.out)
    have K6 := Lib.hid (next0 K4.out G6.out)
    have HX := Lib.hid (H4.out.step0 G6.out)
    have hz5 := k5.size
    have CM := Lib.hid (NorG.rcmpr_any x.1 y.1 x.2 y.2 W6.heap.size W6 _ _ _ _ (Nat.le_refl _) ((S4.out.frame (w' := W6) fun b o hb => G6.out.cell (p := ⟨b, o, none⟩) (show b < W4.heap.size by omega)).weaken fun b hb => by omega) ((hs5.frame (w' := W6) fun b o hb => J6.out.cell (p := ⟨b, o, none⟩) hb.2).weaken fun b hb => by omega) N3.out hn5 ((L4.out.keep (w' := W6) fun b o hb => G6.out.cell (p := ⟨b, o, none⟩) (show b < W4.heap.size by omega)).wide fun b hb => by omega) ((hl5.keep (w' := W6) fun b o hb => J6.out.cell (p := ⟨b, o, none⟩) hb.2).wide fun b hb => by omega))
    have CE : Hid (cmpR (x.1, x.2) (y.1, y.2) = cmpR x y) := Lib.hid rfl
    rw [CE.out] at CM
    have EE := Lib.hid (EC1.out x y NX.out hnf5)
    clear hnf5 hs5 hl5 hn5 k5 CB4 S4 L4 H4 E4 y1 y2 y3 y4 y5 y6 y7 CE EC1
    go_upto_region 5 with fail
    rw [← hW6]
    clear hW6
    by_cases hk2 : k2 = 0
    · have EE1 := Lib.hid (EE.out hk2)
      obtain ⟨f1, f2, f3, f4, f5, f6, f7⟩ := UnpP.has3 HX.out
      obtain ⟨g1, g2, g3, g4, g5, g6, g7⟩ := UnpP.has3 H6.out
      generalize hcc : cmpR x y = c at *
      subst hk2
      clear hcc EE EB1 NX N3
      generalize x.1.nm = xn at *
      generalize x.1.args.length = xa at *
      generalize x.2.length = xl at *
      generalize y.1.nm = yn at *
      generalize y.1.args.length = ya at *
      generalize y.2.length = yl at *
      go_wp2_with fail
      refine CM.out.mono ?_
      rintro e w7 ⟨rfl, g7'⟩
      have K7 := Lib.hid (next0 K6.out g7'.1)
      clear g7'
      go_wp2_with fail
      refine bodyPost_ret (v := .tuple #[.bool (c == 0), .int .i64 0]) (by simp [results, Tryz.results17, go_sem]) rfl ?_
      exact ⟨_, _, rfl, EE1.out, K7.out⟩
    · have hcc : (k2 != 0) = true := by simpa using hk2
      have EE1 := Lib.hid (EB1.out hk2)
      clear hk2 EB1 EE
      go_wp2_with fail
      refine bodyPost_ret (v := .tuple #[.bool false, .int .i64 k2]) (by simp [results, Tryz.results17, go_sem]) rfl ?_
      exact ⟨_, _, rfl, EE1.out, K6.out⟩
  · have hcc : (k1 != 0) = true := by simpa using hk1
    have EE1 := Lib.hid (EA.out hk1)
    clear hk1 EA EB EC
    go_wp2_with fail
    refine bodyPost_ret (v := .tuple #[.bool false, .int .i64 k1]) (by simp [results, Tryz.results17, go_sem]) rfl ?_
    exact ⟨_, _, rfl, EE1.out, K4.out⟩
end NolO
end Go.Proofs.YtdkpflojdnkbnaaGreatDoor
