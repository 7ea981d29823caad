/- Texts laid together: UnmF. Their own heads stand before each. -/
import Derived.Test.YtaenalpckloikaaGreatDoorGA14
import Derived.Test.YtaenalpckloikaaGreatDoorGA12
import Derived.Test.YtaenalpckloikaaGreatDoorGA11
/- Unify of the code: what it answers is unifyP. Conditions: terms of at most a million parts and bytes, at most a million entries; the variable nameEnds holds its bytes; the library's sort of strings as a premise. -/
namespace Go.Proofs.YtaenalpckloikaaGreatDoor
open Go Go.RowKit Go.Maps Go.WideMaps
namespace UnmF
open LexM TermM TermI Kit TermN TermU TermL TermE TermF UniK UniM UniA UniG UniJ UniL UniR UniD UniH TermT UnmA UnmB UnmC UnmD UnmE
/-- What the library's sort of strings leaves. -/
def SortC : Prop := ∀ (base : Nat) (w : World) (v : Value) (vs : List ByteArray), w.ownsRow base 9 1 v vs.length (strs vs) → vs.length ≤ 1000000 → Calls Tryz.prog 55 #[v] w fun e w' => e = .returned (.tuple #[]) ∧ w'.ownsRow base 9 1 v vs.length (strs (sortB vs)) ∧ Below base w w'
theorem vars_var {xs : List ByteArray} : ∀ v ∈ varsOf xs, varB v = true := by
  have gen : ∀ (xs M : List ByteArray), (∀ x ∈ M, varB x = true) → ∀ x ∈ xs.foldl addV M, varB x = true := by
    intro xs
    induction xs with
    | nil => intro M hM; exact hM
    | cons a r ih =>
      intro M hM
      refine ih (addV M a) ?_
      intro x h
      unfold addV at h
      split at h
      · next hc =>
        rcases List.mem_append.1 h with h | h
        · exact hM x h
        · obtain rfl := List.mem_singleton.1 h; exact hc.1
      · exact hM x h
  exact gen xs [] (fun x h => by simp at h)
theorem var_ok {v : ByteArray} (h : varB v = true) : v.size ≤ 16 := by
  unfold varB varL at h
  simp only [Bool.and_eq_true, decide_eq_true_eq] at h
  exact h.1.1
theorem leaf_ok {v : ByteArray} (h : varB v = true) : Ok (.mk v []) := by
  have h1 := var_ok h
  have h2 : v.data.toList.length = v.size := rfl
  exact ⟨by simp only [Tm.nm, maxLen]; omega, by simp [textT]; omega, by simp [sizeT, sizeL]⟩
theorem sol_cons {D : Cls} {n : Nat} {v : ByteArray} {l : List ByteArray} {r : List Bd} (h : solP D n (v :: l) = some r) : ∃ t r', resP D n 4 (.mk v []) = some t ∧ solP D n l = some r' ∧ r = if eqB t.nm v = true then r' else (v, t) :: r' := by
  unfold solP at h
  cases h1 : resP D n 4 (.mk v []) with
  | none => rw [h1] at h; cases h
  | some t =>
    cases h2 : solP D n l with
    | none => rw [h1, h2] at h; cases h
    | some r' =>
      rw [h1, h2] at h
      cases h
      exact ⟨t, r', rfl, rfl, rfl⟩
theorem bd3 {n : Nat} (h : n ≤ 1000000) : n + 1 ≤ maxLen := by unfold maxLen; omega
theorem bd4 {n : Nat} (h : n ≤ 1000000) : (n + 1) * 56 ≤ 140737488355328 := by omega
set_option maxRecDepth 100000 in
set_option maxHeartbeats 6400000 in
theorem unify_any (SC : SortC) (n : Nat) (a b : Tm) (o : Option (List Bd)) (ho : unifyP n a b = some o) (oa : Ok a) (ob : Ok b) (hz : sizeT a + sizeT b ≤ 1000000) (hD : ∀ D r, joinP n [] a b = some (D, r) → D.length ≤ 1000000)
    (B : Nat) (w : World) (av bv : Value) (hw : Wd w) (hg : 0 < B) (hB : B ≤ w.heap.size) (ha : SlIn (· < B) w a.args av) (hb : SlIn (· < B) w b.args bv) :
    Calls Tryz.prog 29 #[.agg #[.string a.nm, av], .agg #[.string b.nm, bv]] w (MtR o w) := by
  obtain ⟨i0, hi, hz0, hz1, hz2⟩ := info_parts infoB
  obtain ⟨pa, ca, rfl⟩ := ha.form
  obtain ⟨pb, cb, rfl⟩ := hb.form
  obtain ⟨W2, hW2⟩ : ∃ W2, W2 = (w.alloc (.cells #[.string a.nm, .slice pa a.args.length ca] 27)).alloc (.cells #[.string b.nm, .slice pb b.args.length cb] 27) := ⟨_, rfl⟩
  have B2 : Hid (Below w.heap.size w W2) := Lib.hid (by rw [hW2]; exact ((Gr.alloc _ _).more _).1)
  have hs2 : w.heap.size + 2 ≤ W2.heap.size := by rw [hW2]; simp
  have H2 : Hid (Has W2 w.heap.size #[.string a.nm, .slice pa a.args.length ca]) := Lib.hid (by rw [hW2]; exact (Has.new w _ _).alloc _)
  have T2 : Hid (Has W2 (w.heap.size + 1) #[.string b.nm, .slice pb b.args.length cb]) := Lib.hid (by rw [hW2]; exact Has.new1 w _ _ _)
  have VA := Lib.hid (fun w' (k : Below w.heap.size w w') => TermV.valid_any a B w' _ (Nat.le_trans hB k.size) oa.1 (ha.deep k hB))
  have VB := Lib.hid (fun w' (k : Below w.heap.size w w') => TermV.valid_any b B w' _ (Nat.le_trans hB k.size) ob.1 (hb.deep k hB))
  have CJ := Lib.hid (fun D r (hj : joinP n [] a b = some (D, r)) w' (k : Below w.heap.size w w') => join_any n [] a b D r hj (hD D r hj) B w'.heap.size (w'.alloc (.map #[] 0)) _ _ (hw.below (next0 k (below_alloc _ _)) hw.1) hg (Nat.le_trans hB k.size) (Cl.made w' B) (ha.deep (next0 k (below_alloc _ _)) hB) (hb.deep (next0 k (below_alloc _ _)) hB) oa ob)
  have CV := Lib.hid (fun (w' : World) sv (B' : Nat) (h1 : B' ≤ w'.heap.size) (h : SlIn (· < B') w' [a, b] sv) => vars_any [a, b] B' w' sv h1 h (by simp only [sizeL]; omega))
  have SA := Lib.hid (fun w' (k : Below B w w') => And.intro (ha.deep k (Nat.le_refl _)) (hb.deep k (Nat.le_refl _)))
  have WW := Lib.hid (fun w' (k : Below B w w') => hw.below k hg)
  have HN := Lib.hid (And.intro oa.1 ob.1)
  have VV : Hid (∀ v ∈ sortB (varsOf (leavesL [a, b])), varB v = true) := Lib.hid (fun v h => vars_var v (sortB_mem h))
  have hvl : (varsOf (leavesL [a, b])).length ≤ 1000000 := by
    have h1 := varsOf_len (leavesL [a, b])
    have h2 := leavesL_len [a, b]
    simp only [sizeL] at h2
    omega
  have hvs := sortB_len (varsOf (leavesL [a, b]))
  have CS := Lib.hid (fun base w' v h => SC base w' v (varsOf (leavesL [a, b])) h hvl)
  have HB := Lib.hid hB
  have HG := Lib.hid hg
  have hmm := @run_makeMap Tryz.prog
  unfold unifyP at ho
  generalize sortB (varsOf (leavesL [a, b])) = vs at *
  generalize hvz : varsOf (leavesL [a, b]) = vz at *
  unfold Vrs at CV
  unfold JnR at CJ
  clear ha hb hw hz oa ob hD hB hg SC
  obtain ⟨va, hva⟩ : ∃ z, validT false 4 a = z := ⟨_, rfl⟩
  obtain ⟨vb, hvb⟩ : ∃ z, validT false 4 b = z := ⟨_, rfl⟩
  rw [hva] at VA ho
  rw [hvb] at VB ho
  clear hva hvb
  generalize hj : joinP n [] a b = oj at *
  clear hj
  generalize hna : a.nm = an at *
  generalize hal : a.args.length = al at *
  generalize hnb : b.nm = bn at *
  generalize hbl : b.args.length = bl at *
  have HNA := Lib.hid (And.intro hna hnb)
  clear hna hnb hal hbl
  obtain ⟨y1, y2, y3, y4, y5⟩ := H2.out.two
  go_enter Tryz.func29, Tryz.ntmps29
  go_upto_region 1 with fail
  rw [← hW2]
  clear hW2
  go_wp2_with fail
  refine (VA.out _ B2.out).mono ?_
  rintro e w3 ⟨rfl, g3⟩
  have D3 := Lib.hid (next0 B2.out g3.1)
  have H3 := Lib.hid (H2.out.step0 g3.1)
  have T3 := Lib.hid (T2.out.step0 g3.1)
  have hs3 : w.heap.size + 2 ≤ w3.heap.size := Nat.le_trans hs2 g3.1.size
  clear VA g3 H2 T2 B2 hs2 y1 y2 y3 y4 y5
  cases va
  · have e9 : o = none := by simpa using ho.symm
    subst e9
    go_wp2_with fail
    refine bodyPost_ret (v := .tuple #[.slice none 0 0, .bool false]) (by simp [results, Tryz.results29, go_sem]) rfl ?_
    unfold MtR
    exact ⟨_, false, rfl, (fun h => by cases h), (fun _ => ⟨rfl, rfl⟩), D3.out⟩
  obtain ⟨z1, z2, _⟩ := T3.out.two
  go_wp2_with fail
  refine (VB.out _ D3.out).mono ?_
  rintro e w4 ⟨rfl, g4⟩
  have D4 := Lib.hid (next0 D3.out g4.1)
  have H4 := Lib.hid (H3.out.step0 g4.1)
  have T4 := Lib.hid (T3.out.step0 g4.1)
  have hs4 : w.heap.size + 2 ≤ w4.heap.size := Nat.le_trans hs3 g4.1.size
  clear VB g4 H3 T3 D3 hs3 z1 z2
  cases vb
  · have e9 : o = none := by simpa using ho.symm
    subst e9
    go_wp2_with fail
    refine bodyPost_ret (v := .tuple #[.slice none 0 0, .bool false]) (by simp [results, Tryz.results29, go_sem]) rfl ?_
    unfold MtR
    exact ⟨_, false, rfl, (fun h => by cases h), (fun _ => ⟨rfl, rfl⟩), D4.out⟩
  rw [if_neg (by simp)] at ho
  obtain ⟨D, r, rfl⟩ : ∃ D r, oj = some (D, r) := by
    cases oj with
    | none => cases ho
    | some z => exact ⟨z.1, z.2, rfl⟩
  obtain ⟨W5, hW5⟩ : ∃ W5, W5 = w4.alloc (.map #[] 0) := ⟨_, rfl⟩
  have H5 : Hid (Has W5 w.heap.size #[.string an, .slice pa al ca]) := Lib.hid (by rw [hW5]; exact H4.out.alloc _)
  have T5 : Hid (Has W5 (w.heap.size + 1) #[.string bn, .slice pb bl cb]) := Lib.hid (by rw [hW5]; exact T4.out.alloc _)
  have CJ5 := Lib.hid (CJ.out D r rfl w4 D4.out)
  rw [← hW5] at CJ5
  have D5 : Hid (Below w.heap.size w W5) := Lib.hid (by rw [hW5]; exact next0 D4.out (below_alloc _ _))
  have hs5 : w4.heap.size < W5.heap.size := by rw [hW5]; simp
  obtain ⟨y1, y2, _⟩ := H5.out.two
  obtain ⟨z1, z2, _⟩ := T5.out.two
  clear CJ H4 T4
  go_upto_region 4 with fail
  rw [← hW5]
  clear hW5 hmm
  go_wp2_with fail
  refine CJ5.out.mono ?_
  rintro e w6 ⟨rfl, hC6, h6⟩
  have C6 := Lib.hid hC6
  have K6 := Lib.hid h6
  have D6 : Hid (Below w.heap.size w w6) := Lib.hid (D5.out.trans (h6.toBelow (by have := D4.out.size; omega) (by have := D5.out.size; omega)))
  have H6 := Lib.hid (h6.has H5.out (by omega))
  have T6 := Lib.hid (h6.has T5.out (by omega))
  have hs6 : w4.heap.size < w6.heap.size := Nat.lt_of_lt_of_le hs5 h6.size
  clear CJ5 hC6 h6 H5 T5 D5 K6 hs5 y1 y2 z1 z2
  cases r
  · have e9 : o = none := by simpa using ho.symm
    subst e9
    go_wp2_with fail
    refine bodyPost_ret (v := .tuple #[.slice none 0 0, .bool false]) (by simp [results, Tryz.results29, go_sem]) rfl ?_
    unfold MtR
    exact ⟨_, false, rfl, (fun h => by cases h), (fun _ => ⟨rfl, rfl⟩), D6.out⟩
  dsimp only at ho
  obtain ⟨s, hs, hos⟩ : ∃ s, solP D n vs = some s ∧ Hid (o = (if vldS s = true then some s else none)) := by
    cases h : solP D n vs with
    | none => rw [h] at ho; cases ho
    | some s => rw [h] at ho; cases ho; exact ⟨s, rfl, Lib.hid rfl⟩
  have HS := Lib.hid hs
  clear ho hs
  obtain ⟨y1, y2, _⟩ := H6.out.two
  obtain ⟨z1, z2, _⟩ := T6.out.two
  obtain ⟨W7, hW7⟩ : ∃ W7, W7 = w6.alloc (.cells #[.string an, .slice pa al ca, .string bn, .slice pb bl cb] 27) := ⟨_, rfl⟩
  have R7 : Hid (Has W7 w6.heap.size #[.string an, .slice pa al ca, .string bn, .slice pb bl cb]) := Lib.hid (by rw [hW7]; exact Has.new _ _ _)
  have K7 : Hid (Below w6.heap.size w6 W7) := Lib.hid (by rw [hW7]; exact below_alloc _ _)
  have hs7 : w6.heap.size + 1 = W7.heap.size := by rw [hW7]; simp
  have hB6 : B ≤ w6.heap.size := Nat.le_trans HB.out D6.out.size
  have CV7 := Lib.hid (CV.out W7 (.slice (some ⟨w6.heap.size, 0, none⟩) 2 2) (w6.heap.size + 1) (by omega) (by
    have D7 : Below B w W7 := (D6.out.mono HB.out).trans (K7.out.mono hB6)
    obtain ⟨s1, s2⟩ := SA.out W7 D7
    obtain ⟨n1, n2⟩ := HNA.out
    refine TermH.slin_of (B := B) (B' := w6.heap.size + 1) (g := w6.heap.size) (cap := 2) (L := [(a, .slice pa al ca), (b, .slice pb bl cb)]) (by omega) (by omega) (Nat.le_refl _) (by decide) (by have := R7.out; rw [← n1, ← n2] at this; exact this) ?_
    intro x hx
    rcases List.mem_cons.1 hx with rfl | hx
    · exact ⟨s1, by rw [n1]; exact HN.out.1⟩
    · obtain rfl := List.mem_singleton.1 hx
      exact ⟨s2, by rw [n2]; exact HN.out.2⟩))
  clear CV R7 SA H6 T6
  go_wp2_with fail
  rw [← hW7]
  clear hW7
  refine CV7.out.mono ?_
  rintro e w8 ⟨v8, base8, rfl, hO8, hb8, k8⟩
  obtain ⟨a9, c9, rfl⟩ := row_form hO8
  have K8 := Lib.hid (next0 K7.out k8)
  have hs8 : w6.heap.size ≤ w8.heap.size := K8.out.size
  have CS8 := Lib.hid (CS.out base8 w8 _ hO8)
  clear CV7 k8 K7 y1 y2 z1 z2 hO8 CS
  go_wp2_with fail
  refine CS8.out.mono ?_
  rintro e w9 ⟨rfl, hO9, k9⟩
  have O9 := Lib.hid hO9
  have K9 := Lib.hid (K8.out.trans (k9.mono (by omega)))
  have D9 := Lib.hid (next0 D6.out K9.out)
  have C9 := Lib.hid (C6.out.keep K9.out hB6)
  have hB9 : B ≤ w9.heap.size := Nat.le_trans hB6 K9.out.size
  have hp9 : 0 < w9.heap.size := by have := HG.out; omega
  clear CS8 hO9 k9 K8 C6 K9 D6
  generalize hmz : vz.length = m at *
  have CR := Lib.hid (fun (v u : ByteArray × Tm) (hv : varB v.1 = true) (hr : resP D n 4 (.mk v.1 []) = some u.2) w' (k : Below w9.heap.size w9 w') => (res_any D n 4 (by omega) (.mk v.1 []) u.2 hr B w4.heap.size w' (.slice none 0 0) (WW.out w' ((D9.out.mono HB.out).trans (k.mono hB9))) (Nat.le_trans hB9 k.size) (C9.out.keep k hB9) (SlIn.none _ _) (leaf_ok hv) : Calls Tryz.prog 56 #[.map (some w4.heap.size), .agg #[.string v.1, .slice none 0 0], .int .i64 4] w' (RApR 0 u.2 w')))
  have HVM := Lib.hid hvs
  clear hvs hmz hvz
  unfold RApR at CR
  go_wp2_with fail
  go_loopw [8, 34] (fun v i wr => ∃ (k : Nat) (L : List (Bd × Value)), k ≤ m ∧ i = .int .i64 k ∧ Hid (∃ r, solP D n (vs.drop k) = some r ∧ L.map (·.1) ++ r = s) ∧ Hid (OwnG KB w9.heap.size wr L v) ∧ L.length ≤ k ∧ Hid (Below w9.heap.size w9 wr)) (fun _ i _ => m - (intOf i).toNat)
  case atStart => exact ⟨0, [], Nat.zero_le _, rfl, Lib.hid ⟨s, HS.out, rfl⟩, Lib.hid (OwnG.nil _ _), Nat.le_refl _, Lib.hid (Below.refl _ _)⟩
  case round =>
    obtain ⟨k, L, hk, rfl, hE, hO, hL, hK⟩ := hrel
    obtain ⟨va, vc, rfl⟩ := hO.out.form
    by_cases hlt : k < m
    · obtain ⟨v0, hv0⟩ : ∃ v0, vs[k]? = some v0 := ⟨vs[k]'(by rw [HVM.out]; exact hlt), by simp⟩
      obtain ⟨r, hr, hrs⟩ := hE.out
      rw [TermQ.drop_get hv0] at hr
      obtain ⟨u, r', hu, hr', rfl⟩ := sol_cons hr
      have OR : wr.ownsRow base8 9 1 (.slice a9 m c9) vs.length (strs vs) := by
        have := own_below (w' := wr) O9.out hK.out
        rw [HVM.out]
        exact this
      obtain ⟨g, cap, hav, hcell, hgb, hgl⟩ := row_str OR hv0
      injection hav with hav1 hav3 hav2
      subst hav1 hav2
      clear hav3
      have hvv := VV.out v0 (List.mem_of_getElem? hv0)
      have hv16 := var_ok hvv
      have CR0 := Lib.hid (fun w' (k : Below w9.heap.size w9 w') => CR.out (v0, .mk v0 []) (v0, u) hvv hu w' k)
      have E0 := Lib.hid hr'
      have E1 := Lib.hid hrs
      have CLf := Lib.hid (fun w' => leaf_nil v0 w')
      have hOl := Lib.hid hO.out.1.lt
      have A1 := bd3 (show L.length ≤ 1000000 by omega)
      have A2 := bd4 (show L.length ≤ 1000000 by omega)
      clear hv0 hr hu hr' hrs OR hE hvv
      go_wp2_with fail
      refine (CLf.out _).mono ?_
      rintro e w10 ⟨rfl, k10⟩
      have K10 := Lib.hid (next0 hK.out k10)
      have O10 := Lib.hid (hO.out.ch (r := 0) (Ch.of k10) hp9)
      have hs10 : wr.heap.size ≤ w10.heap.size := k10.size
      clear hcell k10 CLf hO
      go_wp2_with fail
      refine (CR0.out _ K10.out).mono ?_
      rintro e w11 ⟨q, d, rfl, hS, hnu, k11⟩
      have K11 := Lib.hid (next0 K10.out k11)
      have O11 := Lib.hid (O10.out.ch (r := 0) (Ch.of k11) hp9)
      have hs11 : w10.heap.size ≤ w11.heap.size := k11.size
      have S11 := Lib.hid (hS.weaken (ok' := fun b => w10.heap.size ≤ b ∧ b < w11.heap.size) (fun b hb => by have := hb; omega))
      have NU := Lib.hid hnu
      clear hS hnu k11 CR0 K10 O10
      obtain ⟨W12, hW12⟩ : ∃ W12, W12 = w11.alloc (.cells #[.string u.nm, .slice q u.args.length d] 27) := ⟨_, rfl⟩
      have K12 : Hid (Below w9.heap.size w9 W12) := Lib.hid (by rw [hW12]; exact next0 K11.out (below_alloc _ _))
      have O12 : Hid (OwnG KB w9.heap.size W12 L (.slice va L.length vc)) := Lib.hid (by rw [hW12]; exact O11.out.ch (r := 0) (Ch.of (below_alloc _ _)) hp9)
      have S12 : Hid (SlIn (fun b => w10.heap.size ≤ b ∧ b < W12.heap.size) W12 u.args (.slice q u.args.length d)) := Lib.hid (by
        rw [hW12]
        exact (S11.out.frame (w' := w11.alloc (.cells #[.string u.nm, .slice q u.args.length d] 27)) fun b o hb => (below_alloc w11 _).cell (p := ⟨b, o, none⟩) hb.2).weaken fun b hb => ⟨hb.1, by simp; omega⟩)
      have hs12 : w11.heap.size + 1 = W12.heap.size := by rw [hW12]; simp
      obtain ⟨u1, u2, _⟩ := (show Has W12 w11.heap.size #[.string u.nm, .slice q u.args.length d] by rw [hW12]; exact Has.new _ _ _).two
      obtain ⟨z, hz⟩ : ∃ z, (u.nm.toList == v0.toList) = z := ⟨_, rfl⟩
      have EZ : Hid (eqB u.nm v0 = z) := Lib.hid (by unfold eqB; rw [← hz, ByteArray.toList_eq, ByteArray.toList_eq])
      have h9r : w9.heap.size ≤ wr.heap.size := hK.out.size
      have hzb : w9.heap.size ≤ (W12.alloc (.cells #[.string v0, .string u.nm, .slice q u.args.length d] 52)).heap.size := by simp; omega
      clear K11 O11 S11 hK
      cases z
      · have e1 := E1.out
        rw [EZ.out, if_neg (by simp)] at e1
        have E2 : Hid ((L ++ [((v0, u), Value.slice q u.args.length d)]).map (·.1) ++ r' = s) := Lib.hid (by rw [List.map_append, List.append_assoc]; exact e1)
        have KI : Hid (KB.inn (fun b => w10.heap.size ≤ b ∧ b < W12.heap.size) W12 ((v0, u), Value.slice q u.args.length d)) := Lib.hid ⟨S12.out, NU.out, by unfold maxLen; show v0.size ≤ _; omega⟩
        clear e1 E1 S12
        generalize hun : u.nm = un at *
        have HUN := Lib.hid hun
        clear hun
        generalize hul : u.args.length = ul at *
        clear hul
        go_upto_region 13 with fail
        rw [← hW12]
        clear hW12
        go_wp2_with (at_builtin; refine wpList_append_lies _ rfl _ _ 22 rfl w9.heap.size 52 i0 zB 3 56 Tryz.underlying22 hi hz0 hz1 hz2 rfl (by decide) (.slice va L.length vc) L.length (KB.flat L) rfl (O12.out.1.alloc _) ⟨W12.heap.size, 0, none⟩ 1 1 [.string v0, .string un, .slice q ul d] rfl rfl (newsK _ _ _ _ _) (one_B _ _ _ _ _) (by decide) A1 A2 hzb (W12.heap.size + 1) (by simp) ?_; intro g5 cap5 w13 hown hgrow hat hlt5)
        have HA := OwnG.add (lo := w10.heap.size) (x := ((v0, u), Value.slice q ul d)) (K := KB) O12.out KI.out (by omega) (fun k hk => by have := (hOl.out k hk).2; omega) (by have e := HUN.out; rw [← e] at hown; exact hown) hgrow hat
        have K13 := Lib.hid ((K12.out.alloc (by exact K12.out.size) _).grown hgrow (by have := K12.out.size; simp; omega) (fun k hk => by have := (hOl.out k hk).1; omega))
        have O13 := Lib.hid HA
        have LL : (L ++ [((v0, u), Value.slice q ul d)]).length ≤ k + 1 := by simp; omega
        clear HA hown hgrow hat KI O12
        go_wp2_with fail
        go_roundw
        case rel => (repeat (refine Exists.intro _ ?_)); first | exact ⟨k + 1, _, by omega, by go_num, Lib.hid ⟨r', E0.out, E2.out⟩, O13, LL, K13⟩ | (refine ⟨?_, rfl⟩; exact ⟨k + 1, _, by omega, by go_num, Lib.hid ⟨r', E0.out, E2.out⟩, O13, LL, K13⟩)
        case measure => simp [intOf]; omega
      · have e1 := E1.out
        rw [EZ.out, if_pos rfl] at e1
        have E2 := Lib.hid e1
        clear e1 E1 S12 NU
        generalize u.nm = un at *
        generalize u.args.length = ul at *
        go_upto_region 13 with fail
        rw [← hW12]
        clear hW12
        go_wp2_with fail
        go_roundw
        case rel => (repeat (refine Exists.intro _ ?_)); first | exact ⟨k + 1, L, by omega, by go_num, Lib.hid ⟨r', E0.out, E2.out⟩, O12, by omega, K12⟩ | (refine ⟨?_, rfl⟩; exact ⟨k + 1, L, by omega, by go_num, Lib.hid ⟨r', E0.out, E2.out⟩, O12, by omega, K12⟩)
        case measure => simp [intOf]; omega
    · obtain rfl : k = m := by omega
      have hLs : L.map (·.1) = s := by
        obtain ⟨r, hr, hrs⟩ := hE.out
        rw [← HVM.out, List.drop_length] at hr
        cases hr
        simpa using hrs
      have SI : Hid (SIn (· < wr.heap.size) wr s (.slice va L.length vc)) := Lib.hid ⟨L, hLs, (hO.out.row).wide fun b hb => hb.2⟩
      have CW := Lib.hid (cvalid_any s wr.heap.size wr _ (Nat.le_refl _) SI.out)
      have KW := Lib.hid (next0 D9.out hK.out)
      clear hE hO hLs
      obtain ⟨z, hz⟩ : ∃ z, vldS s = z := ⟨_, rfl⟩
      rw [hz] at CW hos
      clear hz
      go_wp2_with fail
      refine CW.out.mono ?_
      rintro e w14 ⟨rfl, g14⟩
      have S14 := Lib.hid ((SI.out.gr g14 (Nat.le_refl _)).wide (ok' := (· < w14.heap.size)) fun b hb => Nat.lt_of_lt_of_le hb g14.size)
      have K14 := Lib.hid (next0 KW.out g14.1)
      clear g14 CW SI
      cases z
      · go_wp2_with fail
        refine bodyPost_ret (v := .tuple #[.slice none 0 0, .bool false]) (by simp [results, Tryz.results29, go_sem]) rfl ?_
        unfold MtR
        exact ⟨_, false, rfl, (fun h => by cases h), (fun _ => ⟨by have := hos.out; simpa using this, rfl⟩), K14.out⟩
      · go_wp2_with fail
        refine bodyPost_ret (v := .tuple #[.slice va L.length vc, .bool true]) (by simp [results, Tryz.results29, go_sem]) rfl ?_
        unfold MtR
        exact ⟨_, true, rfl, (fun _ => ⟨s, by have := hos.out; simpa using this, S14.out⟩), (fun h => by cases h), K14.out⟩
end UnmF
end Go.Proofs.YtaenalpckloikaaGreatDoor
