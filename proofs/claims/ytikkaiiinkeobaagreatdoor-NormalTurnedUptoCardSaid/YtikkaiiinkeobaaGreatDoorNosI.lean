/- Equal and Same of the code. Conditions: term.Text's table is laid. -/
import Derived.Test.YtikkaiiinkeobaaGreatDoorNosH
namespace Go.Proofs.YtikkaiiinkeobaaGreatDoor
open Go Go.RowKit Go.Maps Go.WideMaps
namespace NosI
open Kit LexM TermM TermI TermN TermU TermT UniK UniM UnpP NorM NorH NosF NosV NosH
/-- What Equal answers. -/
def EqOf (a b : List Rl) (R : Bool) (c : Int) : Prop :=
  (codeL a ≠ 0 → R = false ∧ c = codeL a) ∧ (codeL a = 0 → codeL b ≠ 0 → R = false ∧ c = codeL b) ∧ (codeL a = 0 → codeL b = 0 → c = 0 ∧ (R = true ↔ ∀ x, (∃ r ∈ a, NfOf r x) ↔ ∃ r ∈ b, NfOf r x))
theorem eq_both {a b m k : List Rl} (ha : RsOf a m) (hb : RsOf b k) (ea : codeL a = 0) (eb : codeL b = 0) : m = k ↔ ∀ x, (∃ r ∈ a, NfOf r x) ↔ ∃ r ∈ b, NfOf r x := by
  obtain ⟨a1, a2⟩ := ha.1 ea
  obtain ⟨b1, b2⟩ := hb.1 eb
  constructor
  · rintro rfl x
    exact (a2 x).symm.trans (b2 x)
  · intro h
    exact asc_unique r_neg r_zero a1 b1 fun x => (a2 x).trans ((h x).trans (b2 x).symm)
/-- What Equal leaves. -/
def EqR (a b : List Rl) (w : World) (e : Ending) (w' : World) : Prop := ∃ (R : Bool) (c : Int), e = .returned (.tuple #[.bool R, .int .i64 c]) ∧ EqOf a b R c ∧ Below w.heap.size w w'
set_option maxRecDepth 100000 in
set_option maxHeartbeats 3200000 in
theorem equal_any (a b : List Rl) (B : Nat) (w : World) (av bv : Value) (hw : Wd w) (hB : B ≤ w.heap.size) (ha : RIn (· < B) w a av) (hb : RIn (· < B) w b bv) :
    Calls Tryz.prog 22 #[av, bv] w (EqR a b w) := by
  obtain ⟨pa, ca, rfl⟩ := ha.form
  obtain ⟨pb, cb, rfl⟩ := hb.form
  have hmf : ∀ (fn : Fn) (first cap : Array Value) (w : World), (Instr.makeFunc fn first cap).run Tryz.prog w = .ok (.func fn first cap) w := fun _ _ _ _ => rfl
  have CA := Lib.hid (rules_any a B w _ hw hB ha)
  have CB := Lib.hid (fun w' (k : Below w.heap.size w w') => rules_any b B w' _ (hw.below k hw.1) (Nat.le_trans hB k.size) (hb.keep fun b o hb => k.cell (p := ⟨b, o, none⟩) (Nat.lt_of_lt_of_le hb hB)))
  unfold RlR at CA CB
  have EA := Lib.hid (fun (R : Bool) (c : Int) (h : codeL a ≠ 0) (e1 : R = false) (e2 : c = codeL a) => show EqOf a b R c from ⟨fun _ => ⟨e1, e2⟩, fun e => absurd e h, fun e => absurd e h⟩)
  have EB := Lib.hid (fun (R : Bool) (c : Int) (h0 : codeL a = 0) (h : codeL b ≠ 0) (e1 : R = false) (e2 : c = codeL b) => show EqOf a b R c from ⟨fun e => absurd h0 e, fun _ _ => ⟨e1, e2⟩, fun _ e => absurd e h⟩)
  have EC := Lib.hid (fun (R : Bool) (h0 : codeL a = 0) (h : codeL b = 0) (e1 : R = true ↔ ∀ x, (∃ r ∈ a, NfOf r x) ↔ ∃ r ∈ b, NfOf r x) => show EqOf a b R 0 from ⟨fun e => absurd h0 e, fun _ e => absurd h e, fun _ _ => ⟨rfl, e1⟩⟩)
  clear ha hb hw
  generalize a.length = la at *
  generalize b.length = lb at *
  generalize hca : codeL a = c1 at *
  generalize hcb : codeL b = c2 at *
  have HA := Lib.hid hca
  have HBc := Lib.hid hcb
  clear hca hcb
  go_enter Tryz.func22, Tryz.ntmps22
  go_wp2_with fail
  refine CA.out.mono ?_
  rintro e w1 ⟨m1, v1, rfl, hr1, hi1, k1⟩
  obtain ⟨p1, q1, rfl⟩ := hi1.form
  have R1 := Lib.hid hr1
  have I1 := Lib.hid hi1
  have K1 := Lib.hid k1
  clear hr1 hi1 k1 CA
  by_cases hc1 : c1 = 0
  · subst hc1
    go_wp2_with fail
    refine (CB.out w1 K1.out).mono ?_
    rintro e w2 ⟨m2, v2, rfl, hr2, hi2, k2⟩
    obtain ⟨p2, q2, rfl⟩ := hi2.form
    have R2 := Lib.hid hr2
    have K2 := Lib.hid (next0 K1.out k2)
    have I2 := Lib.hid (hi2.wide (ok' := (· < w2.heap.size)) fun b hb => hb.2)
    have I12 := Lib.hid ((I1.out.keep (w' := w2) fun b o hb => k2.cell (p := ⟨b, o, none⟩) hb.2).wide (ok' := (· < w2.heap.size)) fun b hb => Nat.lt_of_lt_of_le hb.2 k2.size)
    clear hr2 hi2 k2 CB I1
    by_cases hc2 : c2 = 0
    · subst hc2
      obtain ⟨R, hR⟩ : ∃ R : Bool, R = true ↔ m1 = m2 := by classical exact ⟨decide (m1 = m2), by simp⟩
      have EQ := Lib.hid (eqf_any m1 m2 R hR w2.heap.size w2 _ _ (Nat.le_refl _) I12.out I2.out)
      have EE := Lib.hid (EC.out R (by first | rfl | trivial) (by first | rfl | trivial) (hR.trans (eq_both R1.out R2.out HA.out HBc.out)))
      clear hR I12 I2 EA EB EC
      generalize m1.length = n1 at *
      generalize m2.length = n2 at *
      go_wp2_with fail
      refine EQ.out.mono ?_
      rintro e w3 ⟨rfl, g3⟩
      have K3 := Lib.hid (next0 K2.out g3.1)
      clear g3
      go_wp2_with fail
      refine bodyPost_ret (v := .tuple #[.bool R, .int .i64 0]) (by simp [results, Tryz.results22, go_sem]) rfl ?_
      exact ⟨R, 0, rfl, EE.out, K3.out⟩
    · have hcc : (c2 != 0) = true := by simpa using hc2
      have EE := Lib.hid (EB.out false c2 (by first | rfl | trivial) hc2 rfl rfl)
      clear hc2
      go_wp2_with fail
      refine bodyPost_ret (v := .tuple #[.bool false, .int .i64 c2]) (by simp [results, Tryz.results22, go_sem]) rfl ?_
      exact ⟨false, c2, rfl, EE.out, K2.out⟩
  · have hcc : (c1 != 0) = true := by simpa using hc1
    have EE := Lib.hid (EA.out false c1 hc1 rfl rfl)
    clear hc1
    go_wp2_with fail
    refine bodyPost_ret (v := .tuple #[.bool false, .int .i64 c1]) (by simp [results, Tryz.results22, go_sem]) rfl ?_
    exact ⟨false, c1, rfl, EE.out, K1.out⟩
theorem rin_one {w : World} {g B : Nat} {r : Rl} {sa sl : Value} (hg : Has w g #[.string r.1.nm, sa, sl]) (hB : B ≤ w.heap.size) (h1 : SlIn (· < B) w r.1.args sa) (h2 : LIn (· < B) w r.2 sl) (hn : r.1.nm.size ≤ maxLen) :
    RIn (· < w.heap.size) w [r] (.slice (some ⟨g, 0, none⟩) 1 1) := by
  refine ⟨[(r, sa, sl)], rfl, some ⟨g, 0, none⟩, 1, rfl, Nat.le_refl _, by unfold maxLen; omega, fun x hx => ?_, fun _ => ⟨g, 0, rfl, hg.lt, fun i x hx j u hu => ?_⟩⟩
  · obtain rfl := List.mem_singleton.1 hx
    exact ⟨h1.weaken fun b hb => Nat.lt_of_lt_of_le hb hB, hn, h2.wide fun b hb => Nat.lt_of_lt_of_le hb hB⟩
  · obtain rfl : i = 0 := by
      have := (List.getElem?_eq_some_iff.1 hx).1
      simp at this
      omega
    simp at hx
    subst hx
    refine (hg.cell _).trans ?_
    rw [show 0 + 0 * 3 + j = j by omega]
    have hu' : [Value.string r.1.nm, sa, sl][j]? = some u := hu
    simpa using hu'
set_option maxRecDepth 100000 in
set_option maxHeartbeats 3200000 in
theorem same_any (a b : Rl) (B : Nat) (w : World) (sa sl sb sm : Value) (hw : Wd w) (hB : B ≤ w.heap.size) (h1 : SlIn (· < B) w a.1.args sa) (h2 : LIn (· < B) w a.2 sl) (hn : a.1.nm.size ≤ maxLen) (h1' : SlIn (· < B) w b.1.args sb) (h2' : LIn (· < B) w b.2 sm) (hn' : b.1.nm.size ≤ maxLen) :
    Calls Tryz.prog 16 #[.agg #[.string a.1.nm, sa, sl], .agg #[.string b.1.nm, sb, sm]] w (EqR [a] [b] w) := by
  obtain ⟨p1, c1, rfl⟩ := h1.form
  obtain ⟨p2, c2, rfl⟩ := h2.form
  obtain ⟨p3, c3, rfl⟩ := h1'.form
  obtain ⟨p4, c4, rfl⟩ := h2'.form
  obtain ⟨W2, hW2⟩ : ∃ W2, W2 = (w.alloc (.cells #[.string a.1.nm, .slice p1 a.1.args.length c1, .slice p2 a.2.length c2] 27)).alloc (.cells #[.string b.1.nm, .slice p3 b.1.args.length c3, .slice p4 b.2.length c4] 27) := ⟨_, rfl⟩
  have B2 : Hid (Below w.heap.size w W2) := Lib.hid (by rw [hW2]; exact next0 (below_alloc _ _) (below_alloc _ _))
  have H2 : Hid (Has W2 w.heap.size #[.string a.1.nm, .slice p1 a.1.args.length c1, .slice p2 a.2.length c2]) := Lib.hid (by rw [hW2]; exact (Has.new w _ _).alloc _)
  have E2 : Hid (Has W2 (w.heap.size + 1) #[.string b.1.nm, .slice p3 b.1.args.length c3, .slice p4 b.2.length c4]) := Lib.hid (by rw [hW2]; exact Has.new1 w _ _ _)
  have hz2 : w.heap.size + 2 ≤ W2.heap.size := by rw [hW2]; simp
  obtain ⟨W4, hW4⟩ : ∃ W4, W4 = (W2.alloc (.cells #[.string a.1.nm, .slice p1 a.1.args.length c1, .slice p2 a.2.length c2] 27)).alloc (.cells #[.string b.1.nm, .slice p3 b.1.args.length c3, .slice p4 b.2.length c4] 27) := ⟨_, rfl⟩
  have J4 : Hid (Below W2.heap.size W2 W4) := Lib.hid (by rw [hW4]; exact next0 (below_alloc _ _) (below_alloc _ _))
  have H4 : Hid (Has W4 W2.heap.size #[.string a.1.nm, .slice p1 a.1.args.length c1, .slice p2 a.2.length c2]) := Lib.hid (by rw [hW4]; exact (Has.new _ _ _).alloc _)
  have E4 : Hid (Has W4 (W2.heap.size + 1) #[.string b.1.nm, .slice p3 b.1.args.length c3, .slice p4 b.2.length c4]) := Lib.hid (by rw [hW4]; exact Has.new1 _ _ _ _)
  have K4 := Lib.hid (next0 B2.out J4.out)
  have hz4 : B ≤ W4.heap.size := Nat.le_trans hB K4.out.size
  have fr : ∀ (b o : Nat), b < B → W4.cell? ⟨b, o, none⟩ = w.cell? ⟨b, o, none⟩ := fun b o hb => K4.out.cell (p := ⟨b, o, none⟩) (Nat.lt_of_lt_of_le hb hB)
  have EQ := Lib.hid (equal_any [a] [b] W4.heap.size W4 _ _ (hw.below K4.out hw.1) (Nat.le_refl _) (rin_one H4.out hz4 (h1.frame fr) (h2.keep fr) hn) (rin_one E4.out hz4 (h1'.frame fr) (h2'.keep fr) hn'))
  clear h1 h2 h1' h2' hw hn hn' fr
  unfold EqR at EQ ⊢
  generalize a.1.nm = an at *
  generalize b.1.nm = bn at *
  generalize a.1.args.length = aa at *
  generalize b.1.args.length = ba at *
  generalize a.2.length = al at *
  generalize b.2.length = bl at *
  obtain ⟨y1, y2, y3, y4, y5, y6, y7⟩ := UnpP.has3 H2.out
  obtain ⟨x1, x2, x3, x4, x5, x6, x7⟩ := UnpP.has3 E2.out
  obtain ⟨u1, u2, u3, u4, u5, u6, u7⟩ := UnpP.has3 ((H2.out.alloc (.cells #[.string an, .slice p1 aa c1, .slice p2 al c2] 27)))
  obtain ⟨t1, t2, t3, t4, t5, t6, t7⟩ := UnpP.has3 ((E2.out.alloc (.cells #[.string an, .slice p1 aa c1, .slice p2 al c2] 27)))
  go_enter Tryz.func16, Tryz.ntmps16
  go_upto_region 1 with fail
  rw [← hW2]
  clear hW2
  go_wp2_with fail
  rw [← hW4]
  clear hW4
  refine EQ.out.mono ?_
  rintro e w5 ⟨R, c, rfl, he, k5⟩
  have HE := Lib.hid he
  have K5 := Lib.hid (next0 K4.out k5)
  clear he k5
  go_wp2_with fail
  refine bodyPost_ret (v := .tuple #[.bool R, .int .i64 c]) (by simp [results, Tryz.results16, go_sem]) rfl ?_
  exact ⟨R, c, rfl, HE.out, K5.out⟩
/-! ### Of two rules -/
theorem code_one (a : Rl) : codeL [a] = codeN a := by
  unfold codeL firstE firstE
  simp only [List.length_cons, List.length_nil]
  rw [if_neg (by omega)]
  split
  · rename_i h; rw [h]
  · rfl
theorem eq_one {a b : Rl} {R : Bool} {c : Int} (h : EqOf [a] [b] R c) (ha : codeN a = 0) (hb : codeN b = 0) : c = 0 ∧ (R = true ↔ ∀ x, NfOf a x ↔ NfOf b x) := by
  have := h.2.2 (by rw [code_one]; exact ha) (by rw [code_one]; exact hb)
  simpa using this
end NosI
end Go.Proofs.YtikkaiiinkeobaaGreatDoor
