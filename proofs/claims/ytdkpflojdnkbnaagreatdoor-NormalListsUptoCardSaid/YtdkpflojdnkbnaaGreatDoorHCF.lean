/- Texts laid together: NosX; NosY; NolA. Their own heads stand before each. -/
import Derived.Test.YtdkpflojdnkbnaaGreatDoorHCE
import Derived.Test.YtdkpflojdnkbnaaGreatDoorHAX
import Derived.Deep.DeepCutAuto
import Derived.Deep.RegionHeld3
import Derived.Test.YtdkpflojdnkbnaaGreatDoorHAV
import Derived.Test.YtdkpflojdnkbnaaGreatDoorHBF
/- The examples of the laws of normal forms, by computation. No conditions. -/
namespace Go.Proofs.YtdkpflojdnkbnaaGreatDoor
open Go
namespace NosX
open LexM TermM UniM UniK UniD UniE NorB NorC NorM NorP NorQ NorR NorS NosQ NosF NosV NosI
def nA : ByteArray := ⟨#[65]⟩
def nB : ByteArray := ⟨#[66]⟩
def nX : ByteArray := ⟨#[88]⟩
def nY : ByteArray := ⟨#[89]⟩
def nP : ByteArray := ⟨#[112]⟩
def nQ : ByteArray := ⟨#[113]⟩
def nR : ByteArray := ⟨#[114]⟩
def n1 : ByteArray := ⟨#[86, 49]⟩
def n2 : ByteArray := ⟨#[86, 50]⟩
def lf (n : ByteArray) : Tm := .mk n []
def e0 : Rl := (.mk nP [lf nB], [(false, .mk nQ [lf nA, lf nB]), (false, lf nR)])
def e1 : Rl := (.mk nP [lf n1], [(false, lf nR), (false, .mk nQ [lf n2, lf n1])])
def e2 : Rl := (.mk nP [lf nX, lf nY], [])
def e3 : Rl := (.mk nP [lf nY, lf nX], [])
def e4 : Rl := (.mk nP [lf nX, lf nX], [])
def y2 : Rl := (.mk nP [lf n1, lf n2], [])
def y4 : Rl := (.mk nP [lf n1, lf n1], [])
def exTxt : List UInt8 := [112, 40, 66, 41, 32, 105, 102, 32, 113, 40, 65, 44, 32, 66, 41, 32, 97, 110, 100, 32, 114, 46, 32, 112, 40, 86, 49, 41, 32, 105, 102, 32, 114, 32, 97, 110, 100, 32, 113, 40, 86, 50, 44, 32, 86, 49, 41, 46, 32, 112, 40, 88, 44, 32, 89, 41, 46, 32, 112, 40, 89, 44, 32, 88, 41, 46, 32, 112, 40, 88, 44, 32, 88, 41, 46]
theorem ex_read : RdM.read exTxt = [e0, e1, e2, e3, e4] := by kernel_rfl
theorem ex_ok : ∀ c ∈ exTxt, RdC.okB c = true := by decide +kernel
theorem nf_exam {r x : Rl} {V : List ByteArray} (hv : vlB r = true) (hn : V.Nodup) (W : List ByteArray) (hW : (lvsR r).filter varB = W) (hVW : ∀ n, n ∈ V ↔ n ∈ W) (h5 : V.length ≤ 5) (hl : LeastOf ((vis V.length (vTs V.length) 0).map (cnd V r)) x) : codeN r = 0 ∧ NfOf r x := by
  have hV : IsVars r V := ⟨hn, fun n => by rw [hVW, ← hW, List.mem_filter]; exact And.comm⟩
  have hp := vars_perm hV (vsr_vars r)
  have hc : codeN r = 0 := by
    unfold codeN
    rw [if_pos hv, if_neg (by rw [← hp.length_eq]; omega)]
  exact ⟨hc, fun _ => nf_perm hp ((nf_iff hn _ fun u => vis_iff).2 hl), fun e => absurd hc e⟩
theorem nodup2 {a b : ByteArray} (h : a.data.toList ≠ b.data.toList) : [a, b].Nodup := by
  simp
  intro e
  exact h (by rw [e])
theorem x0 : codeN e0 = 0 ∧ NfOf e0 e1 := nf_exam (V := [nA, nB]) (by decide +kernel) (nodup2 (by decide)) [nB, nA, nB] (by kernel_rfl) (by intro n; simp only [List.mem_cons, List.not_mem_nil, or_false]; exact ⟨fun h => by rcases h with rfl | rfl <;> simp, fun h => by rcases h with rfl | rfl | rfl <;> simp⟩) (by decide) ⟨List.mem_of_getElem? (i := 1) (by kernel_rfl), by decide +kernel⟩
theorem x1 : codeN e1 = 0 ∧ NfOf e1 e1 := nf_exam (V := [n1, n2]) (by decide +kernel) (nodup2 (by decide)) [n1, n2, n1] (by kernel_rfl) (by intro n; simp only [List.mem_cons, List.not_mem_nil, or_false]; exact ⟨fun h => by rcases h with rfl | rfl <;> simp, fun h => by rcases h with rfl | rfl | rfl <;> simp⟩) (by decide) ⟨List.mem_of_getElem? (i := 0) (by kernel_rfl), by decide +kernel⟩
theorem x2 : codeN e2 = 0 ∧ NfOf e2 y2 := nf_exam (V := [nX, nY]) (by decide +kernel) (nodup2 (by decide)) [nX, nY] (by kernel_rfl) (by intro n; simp) (by decide) ⟨List.mem_of_getElem? (i := 0) (by kernel_rfl), by decide +kernel⟩
theorem x3 : codeN e3 = 0 ∧ NfOf e3 y2 := nf_exam (V := [nX, nY]) (by decide +kernel) (nodup2 (by decide)) [nY, nX] (by kernel_rfl) (by intro n; simp; exact Or.comm) (by decide) ⟨List.mem_of_getElem? (i := 1) (by kernel_rfl), by decide +kernel⟩
theorem x4 : codeN e4 = 0 ∧ NfOf e4 y4 := nf_exam (V := [nX]) (by decide +kernel) (by simp) [nX, nX] (by kernel_rfl) (by intro n; simp) (by decide) ⟨List.mem_of_getElem? (i := 0) (by kernel_rfl), by decide +kernel⟩
theorem y24 : y2 ≠ y4 := fun e => by
  have h : cmpR y2 y4 = 0 := by rw [e]; exact (r_zero _ _).2 rfl
  exact absurd h (by decide +kernel)
theorem s23 {R : Bool} {c : Int} (h : EqOf [e2] [e3] R c) : c = 0 ∧ R = true := by
  obtain ⟨h1, h2⟩ := eq_one h x2.1 x3.1
  refine ⟨h1, h2.2 fun x => ⟨fun hx => ?_, fun hx => ?_⟩⟩
  · rw [nf_det hx x2.2]; exact x3.2
  · rw [nf_det hx x3.2]; exact x2.2
theorem s24 {R : Bool} {c : Int} (h : EqOf [e2] [e4] R c) : c = 0 ∧ R = false := by
  obtain ⟨h1, h2⟩ := eq_one h x2.1 x4.1
  refine ⟨h1, ?_⟩
  cases R with
  | false => rfl
  | true =>
    have := ((h2.1 rfl) y2).1 x2.2
    exact absurd (nf_det this x4.2) y24
theorem ex_codes : codeL [e0, e1, e2, e3, e4] = 0 := by
  unfold codeL
  rw [if_neg (by decide)]
  exact first_ok fun r hr => by
    simp at hr
    rcases hr with rfl | rfl | rfl | rfl | rfl
    · exact x0.1
    · exact x1.1
    · exact x2.1
    · exact x3.1
    · exact x4.1
theorem ex_len {m : List Rl} (h : RsOf [e0, e1, e2, e3, e4] m) : m.length = 3 := by
  obtain ⟨h1, h2⟩ := h.1 ex_codes
  have : m = [e1, y4, y2] := asc_unique r_neg r_zero h1 (by unfold Asc; decide +kernel) fun x => (h2 x).trans (by
    simp only [List.mem_cons, List.not_mem_nil, or_false]
    constructor
    · rintro ⟨r, rfl | rfl | rfl | rfl | rfl, hx⟩
      · exact Or.inl (nf_det hx x0.2)
      · exact Or.inl (nf_det hx x1.2)
      · exact Or.inr (Or.inr (nf_det hx x2.2))
      · exact Or.inr (Or.inr (nf_det hx x3.2))
      · exact Or.inr (Or.inl (nf_det hx x4.2))
    · rintro (rfl | rfl | rfl)
      · exact ⟨e1, Or.inr (Or.inl rfl), x1.2⟩
      · exact ⟨e4, Or.inr (Or.inr (Or.inr (Or.inr rfl))), x4.2⟩
      · exact ⟨e2, Or.inr (Or.inr (Or.inl rfl)), x2.2⟩)
  rw [this]
  rfl
theorem bad : codeN (lf nX, []) = 13 := by
  unfold codeN
  rw [if_neg (by decide +kernel)]
end NosX
end Go.Proofs.YtdkpflojdnkbnaaGreatDoor
/- awake of the laws of normal forms: the examples of the chapter hold. Condition: term.Text's table is laid. -/
namespace Go.Proofs.YtdkpflojdnkbnaaGreatDoor
open Go Go.RowKit
namespace NosY
open Kit LexM TermM TermI TermN TermU TermT UniK UniM UnpP NorM NorH NosF NosV NosH NosI NosX
/-- A rule of a list in memory, at its place. -/
def At (w : World) (b o : Nat) (r : Rl) (q : Option Addr) (d : Nat) (lp : Option Addr) (lc : Nat) : Prop :=
  w.cell? ⟨b, o, none⟩ = some (.string r.1.nm) ∧ w.cell? ⟨b, o + 1, none⟩ = some (.slice q r.1.args.length d) ∧ w.cell? ⟨b, o + 2, none⟩ = some (.slice lp r.2.length lc)
def Mem (B : Nat) (w : World) (b o : Nat) (r : Rl) (q : Option Addr) (d : Nat) (lp : Option Addr) (lc : Nat) : Prop :=
  At w b o r q d lp lc ∧ SlIn (· < B) w r.1.args (.slice q r.1.args.length d) ∧ r.1.nm.size ≤ maxLen ∧ LIn (· < B) w r.2 (.slice lp r.2.length lc)
theorem Mem.deep {B b o : Nat} {w w' : World} {r : Rl} {q : Option Addr} {d : Nat} {lp : Option Addr} {lc : Nat} (h : Mem B w b o r q d lp lc) (hb : b < B) (k : Below B w w') : Mem B w' b o r q d lp lc :=
  ⟨⟨(k.cell (p := ⟨b, o, none⟩) hb).trans h.1.1, (k.cell (p := ⟨b, o + 1, none⟩) hb).trans h.1.2.1, (k.cell (p := ⟨b, o + 2, none⟩) hb).trans h.1.2.2⟩, h.2.1.deep k (Nat.le_refl _), h.2.2.1, h.2.2.2.keep fun b o hb => k.cell (p := ⟨b, o, none⟩) hb⟩
theorem row_mem {B : Nat} {w : World} {l : List Rl} {p : Option Addr} {b o : Nat} (h : RowR B w l p) (hp : p = some ⟨b, o, none⟩) {k : Nat} {r : Rl} (hr : l[k]? = some r) : b < B ∧ ∃ q d lp lc, Mem B w b (o + k * 3) r q d lp lc := by
  obtain ⟨t, b', o', q, d, lp, lc, h1, h2, h3, h4, h5, h6, h7, h8, h9⟩ := h k (List.getElem?_eq_some_iff.1 hr).1
  rw [hp] at h2
  injection h2 with h2
  injection h2 with e1 e2
  subst e1 e2
  rw [hr] at h1
  obtain rfl := Option.some.inj h1
  exact ⟨h3, q, d, lp, lc, ⟨h4, h5, h6⟩, h7, h8, h9⟩
theorem read5 {w : World} {v : Value} (h : RIn (· < w.heap.size) w [e0, e1, e2, e3, e4] v) : ∃ (b o c : Nat) (r0 r1 r2 r3 r4 : Rl), v = .slice (some ⟨b, o, none⟩) 5 c ∧ b < w.heap.size ∧ r0 = e0 ∧ r1 = e1 ∧ r2 = e2 ∧ r3 = e3 ∧ r4 = e4 ∧
    (∃ q d lp lc, Mem w.heap.size w b o r0 q d lp lc) ∧ (∃ q d lp lc, Mem w.heap.size w b (o + 3) r1 q d lp lc) ∧ (∃ q d lp lc, Mem w.heap.size w b (o + 6) r2 q d lp lc) ∧ (∃ q d lp lc, Mem w.heap.size w b (o + 9) r3 q d lp lc) ∧ ∃ q d lp lc, Mem w.heap.size w b (o + 12) r4 q d lp lc := by
  obtain ⟨p, c, rfl, _, _, hR⟩ := NorH.RIn.row h
  obtain ⟨_, b, o, _, _, _, _, _, hp, _⟩ := hR 0 (by decide)
  subst hp
  refine ⟨b, o, c, e0, e1, e2, e3, e4, rfl, (row_mem hR rfl (k := 0) rfl).1, rfl, rfl, rfl, rfl, rfl, ?_, ?_, ?_, ?_, ?_⟩
  · exact (row_mem hR rfl (k := 0) rfl).2
  · exact (row_mem hR rfl (k := 1) rfl).2
  · exact (row_mem hR rfl (k := 2) rfl).2
  · exact (row_mem hR rfl (k := 3) rfl).2
  · exact (row_mem hR rfl (k := 4) rfl).2
set_option maxRecDepth 100000 in
set_option maxHeartbeats 6400000 in
theorem awake_any (w : World) (hw : Wd w) : Calls Tryz.prog 11 #[] w fun e w' => e = .returned (.bool true) ∧ Below w.heap.size w w' := by
  have RD := Lib.hid (RdF.read_any ⟨exTxt.toArray⟩ (by decide) (by simpa using ex_ok) w)
  rw [show (⟨exTxt.toArray⟩ : ByteArray).data.toList = exTxt by simp, ex_read] at RD
  unfold RdF.RsQ at RD
  have HW := Lib.hid hw
  clear hw
  go_enter Tryz.func11, Tryz.ntmps11
  go_wp2_with fail
  refine RD.out.mono ?_
  rintro e w2 ⟨v, rfl, hin, k2⟩
  have K2 := Lib.hid k2
  obtain ⟨b, o, c, r0, r1, r2, r3, r4, rfl, hb, q0, q1, q2, q3, q4, ⟨p0, d0, l0, c0, m0⟩, ⟨p1, d1, l1, c1, m1⟩, ⟨p2, d2, l2, c2, m2⟩, ⟨p3, d3, l3, c3, m3⟩, ⟨p4, d4, l4, c4, m4⟩⟩ := read5 (hin.wide (ok' := (· < w2.heap.size)) fun b hb => hb.2)
  have RN0 : Hid (Calls Tryz.prog 14 #[.agg #[.string r0.1.nm, .slice p0 r0.1.args.length d0, .slice l0 r0.2.length c0]] w2 fun e w' => ∃ (x : Rl) (q : Option Addr) (d : Nat) (p9 : Option Addr) (c9 : Nat), e = .returned (.tuple #[.agg #[.string x.1.nm, .slice q x.1.args.length d, .slice p9 x.2.length c9], .int .i64 0]) ∧ x = e1 ∧ SlIn (· < w'.heap.size) w' x.1.args (.slice q x.1.args.length d) ∧ LIn (· < w'.heap.size) w' x.2 (.slice p9 x.2.length c9) ∧ Below w2.heap.size w2 w') := Lib.hid ((rule_any r0.1 r0.2 w2.heap.size w2 _ _ (Nat.le_refl _) m0.2.1 m0.2.2.2 m0.2.2.1).mono fun e w' ⟨x, q, d, v, he, hnf, hs, hl, hn, k⟩ => by
    have er : (r0.1, r0.2) = e0 := q0
    rw [er] at he hnf
    rw [x0.1] at he
    obtain ⟨p9, c9, rfl⟩ := hl.form
    exact ⟨x, q, d, p9, c9, he, nf_det hnf x0.2, hs.weaken fun b hb => hb.2, hl.wide fun b hb => hb.2, k⟩)
  have SM23 := Lib.hid (fun w' (k : Below w2.heap.size w2 w') => show Calls Tryz.prog 16 _ w' (fun e w'' => e = .returned (.tuple #[.bool true, .int .i64 0]) ∧ Below w'.heap.size w' w'') from (same_any r2 r3 w2.heap.size w' _ _ _ _ (HW.out.below (next0 K2.out k) HW.out.1) k.size (m2.deep hb k).2.1 (m2.deep hb k).2.2.2 m2.2.2.1 (m3.deep hb k).2.1 (m3.deep hb k).2.2.2 m3.2.2.1).mono fun e w'' ⟨R, c, he, hq, kk⟩ => by
    rw [q2, q3] at hq
    obtain ⟨h1, h2⟩ := s23 hq
    subst h1 h2
    exact ⟨he, kk⟩)
  have SM24 := Lib.hid (fun w' (k : Below w2.heap.size w2 w') => show Calls Tryz.prog 16 _ w' (fun e w'' => e = .returned (.tuple #[.bool false, .int .i64 0]) ∧ Below w'.heap.size w' w'') from (same_any r2 r4 w2.heap.size w' _ _ _ _ (HW.out.below (next0 K2.out k) HW.out.1) k.size (m2.deep hb k).2.1 (m2.deep hb k).2.2.2 m2.2.2.1 (m4.deep hb k).2.1 (m4.deep hb k).2.2.2 m4.2.2.1).mono fun e w'' ⟨R, c, he, hq, kk⟩ => by
    rw [q2, q4] at hq
    obtain ⟨h1, h2⟩ := s24 hq
    subst h1 h2
    exact ⟨he, kk⟩)
  have RL := Lib.hid (fun w' (k : Below w2.heap.size w2 w') => show Calls Tryz.prog 20 _ w' (fun e w'' => ∃ p5 c5, e = .returned (.tuple #[.slice p5 3 c5, .int .i64 0]) ∧ Below w'.heap.size w' w'') from (rules_any [e0, e1, e2, e3, e4] w2.heap.size w' _ (HW.out.below (next0 K2.out k) HW.out.1) k.size ((hin.wide (ok' := (· < w2.heap.size)) fun b hb => hb.2).keep (w' := w') fun b o hb => k.cell (p := ⟨b, o, none⟩) hb)).mono fun e w'' ⟨m, v, he, hr, hi, kk⟩ => by
    obtain ⟨p5, c5, rfl⟩ := hi.form
    rw [ex_codes, ex_len hr] at he
    exact ⟨p5, c5, he, kk⟩)
  have RB : Hid (∀ w', Calls Tryz.prog 14 #[.agg #[.string ⟨#[88]⟩, .slice none 0 0, .slice none 0 0]] w' fun e w'' => ∃ q d p5 c5, e = .returned (.tuple #[.agg #[.string ⟨#[]⟩, .slice q 0 d, .slice p5 0 c5], .int .i64 13]) ∧ Below w'.heap.size w' w'') := Lib.hid (fun w' => (rule_any (lf nX) [] 0 w' (.slice none 0 0) (.slice none 0 0) (Nat.zero_le _) (SlIn.none _ _) (LIn.nil _ _) (by decide)).mono fun e w'' ⟨x, q, d, v, he, hnf, hs, hl, hn, kk⟩ => by
    obtain rfl := hnf.2 (by rw [bad]; decide)
    obtain ⟨p5, c5, rfl⟩ := hl.form
    rw [bad] at he
    exact ⟨q, d, p5, c5, he, kk⟩)
  have PL := Lib.hid (fun (x : Rl) (hx : x = e1) (w9 : World) (k9 : Below w2.heap.size w2 w9) (sv v : Value) (h1 : SlIn (· < w9.heap.size) w9 x.1.args sv) (h2 : LIn (· < w9.heap.size) w9 x.2 v) (w' : World) (k : Below w9.heap.size w9 w') =>
    rule_eq x.1 r1.1 x.2 r1.2 true ⟨fun _ => by rw [hx, q1]; exact ⟨rfl, rfl⟩, fun _ => rfl⟩ w9.heap.size w' sv _ v _ k.size (h1.deep k (Nat.le_refl _)) (((m1.deep hb (k9.trans (k.mono k9.size))).2.1).weaken fun b hb => Nat.lt_of_lt_of_le hb k9.size) (h2.keep fun b o hb => k.cell (p := ⟨b, o, none⟩) hb) (((m1.deep hb (k9.trans (k.mono k9.size))).2.2.2).wide fun b hb => Nat.lt_of_lt_of_le hb k9.size))
  have M0 := Lib.hid (fun w' (k : Below w2.heap.size w2 w') => m0.deep hb k)
  have M1 := Lib.hid (fun w' (k : Below w2.heap.size w2 w') => m1.deep hb k)
  have M2 := Lib.hid (fun w' (k : Below w2.heap.size w2 w') => m2.deep hb k)
  have M3 := Lib.hid (fun w' (k : Below w2.heap.size w2 w') => m3.deep hb k)
  have M4 := Lib.hid (fun w' (k : Below w2.heap.size w2 w') => m4.deep hb k)
  unfold Mem At at M0 M1 M2 M3 M4
  clear m0 m1 m2 m3 m4 hin k2 RD q0 q1 q2 q3 q4
  generalize r0.1.nm = s0 at *
  generalize r0.1.args.length = a0 at *
  generalize r0.2.length = z0 at *
  generalize r1.1.nm = s1 at *
  generalize r1.1.args.length = a1 at *
  generalize r1.2.length = z1 at *
  generalize r2.1.nm = s2 at *
  generalize r2.1.args.length = a2 at *
  generalize r2.2.length = z2 at *
  generalize r3.1.nm = s3 at *
  generalize r3.1.args.length = a3 at *
  generalize r3.2.length = z3 at *
  generalize r4.1.nm = s4 at *
  generalize r4.1.args.length = a4 at *
  generalize r4.2.length = z4 at *
  obtain ⟨f1, f2, f3⟩ := (M0.out _ (Below.refl _ _)).1
  go_wp2_with fail
  refine RN0.out.mono ?_
  rintro e w3 ⟨x, q, d, p9, c9, rfl, hx, hs3, hl3, k3⟩
  have HX := Lib.hid hx
  have S3 := Lib.hid hs3
  have L3 := Lib.hid hl3
  have K3 := Lib.hid k3
  clear hx hs3 hl3 k3 f1 f2 f3 RN0
  obtain ⟨W4, hW4⟩ : ∃ z, z = w3.alloc (.cells #[.string x.1.nm, .slice q x.1.args.length d, .slice p9 x.2.length c9] 27) := ⟨_, rfl⟩
  have J4 : Hid (Below w3.heap.size w3 W4) := Lib.hid (by rw [hW4]; exact below_alloc _ _)
  have H4 : Hid (Has W4 w3.heap.size #[.string x.1.nm, .slice q x.1.args.length d, .slice p9 x.2.length c9]) := Lib.hid (by rw [hW4]; exact Has.new _ _ _)
  have K4 := Lib.hid (next0 K3.out J4.out)
  have PX := Lib.hid (fun (w9 : World) (k9 : Below W4.heap.size W4 w9) => PL.out x HX.out w9 (next0 K4.out k9) (.slice q x.1.args.length d) (.slice p9 x.2.length c9) ((S3.out.deep (next0 J4.out k9) (Nat.le_refl _)).weaken fun b hb => Nat.lt_of_lt_of_le hb (next0 J4.out k9).size) ((L3.out.keep fun b o hb => (next0 J4.out k9).cell (p := ⟨b, o, none⟩) hb).wide fun b hb => Nat.lt_of_lt_of_le hb (next0 J4.out k9).size))
  clear PL HX S3 L3
  generalize x.1.nm = xn at *
  generalize x.1.args.length = xa at *
  generalize x.2.length = xl at *
  obtain ⟨f1, f2, f3⟩ := (M2.out _ K4.out).1
  obtain ⟨g1, g2, g3⟩ := (M3.out _ K4.out).1
  go_upto_region 3 with fail
  rw [← hW4]
  clear hW4
  go_cut [4, 5] (fun s4 s5 wx => s4 = .bool true ∧ s5 = .int .i64 0 ∧ Hid (Below W4.heap.size W4 wx))
  case first =>
    go_region_with (first | (go_at_call 16; refine (SM23.out _ (by first | exact K4.out | exact K4.out.drew | exact below_drewN K4.out _)).mono ?_; rintro e w5 ⟨rfl, k5⟩; have K5 : Hid (Below W4.heap.size W4 w5) := Lib.hid (by first | exact k5 | exact next0 (Below.refl _ _).drew k5 | exact next0 (below_drewN (Below.refl _ _) _) k5); clear k5))
    all_goals
      go_wp2_with fail
      go_meet
      exact ⟨rfl, rfl, K5⟩
  case rest =>
  obtain ⟨rfl, rfl, KC3⟩ := hcut
  clear f1 f2 f3 g1 g2 g3
  have K5 := Lib.hid (next0 K4.out KC3.out)
  obtain ⟨W5, hW5⟩ : ∃ z, z = wc := ⟨_, rfl⟩
  subst hW5
  obtain ⟨f1, f2, f3⟩ := (M2.out _ K5.out).1
  obtain ⟨g1, g2, g3⟩ := (M4.out _ K5.out).1
  go_upto_region 4 with fail
  go_cut [6, 7] (fun s4 s5 wx => s4 = .bool false ∧ s5 = .int .i64 0 ∧ Hid (Below W5.heap.size W5 wx))
  case first =>
    go_region_with (first | (go_at_call 16; refine (SM24.out _ (by first | exact K5.out | exact K5.out.drew | exact below_drewN K5.out _)).mono ?_; rintro e w5 ⟨rfl, k5⟩; have K5 : Hid (Below W5.heap.size W5 w5) := Lib.hid (by first | exact k5 | exact next0 (Below.refl _ _).drew k5 | exact next0 (below_drewN (Below.refl _ _) _) k5); clear k5))
    all_goals
      go_wp2_with fail
      go_meet
      exact ⟨rfl, rfl, K5⟩
  case rest =>
  obtain ⟨rfl, rfl, KC4⟩ := hcut
  clear f1 f2 f3 g1 g2 g3
  have K6 := Lib.hid (next0 K5.out KC4.out)
  go_wp2_with fail
  refine (RL.out _ K6.out).mono ?_
  rintro e w7 ⟨p5, c5, rfl, k7⟩
  have K7 := Lib.hid (next0 K6.out k7)
  have Q7 := Lib.hid (next0 (next0 KC3.out KC4.out) k7)
  clear k7 RL
  go_wp2_with fail
  refine (RB.out _).mono ?_
  rintro e w8 ⟨q8, d8, p8, c8, rfl, k8⟩
  obtain ⟨W9, hW9⟩ : ∃ z, z = w8.alloc (.cells #[.string ⟨#[]⟩, .slice q8 0 d8, .slice p8 0 c8] 27) := ⟨_, rfl⟩
  have J9 : Hid (Below w8.heap.size w8 W9) := Lib.hid (by rw [hW9]; exact below_alloc _ _)
  have K9 := Lib.hid (next0 (next0 K7.out k8) J9.out)
  have Q9 := Lib.hid (next0 (next0 Q7.out k8) J9.out)
  have PX9 := Lib.hid (fun w' k => PX.out W9 Q9.out w' k)
  clear k8 RB PX
  have KF := Lib.hid (next0 K2.out K9.out)
  have hg4 : w3.heap.size < W9.heap.size := (H4.out.step0 Q9.out).lt
  have hbb : b < W9.heap.size := Nat.lt_of_lt_of_le hb K9.out.size
  have Hb : Hid (∀ w', Below W9.heap.size W9 w' → w'.cell? ⟨w3.heap.size, 0, none⟩ = some (.string xn) ∧ w'.cell? ⟨w3.heap.size, 1, none⟩ = some (.slice q xa d) ∧ w'.cell? ⟨w3.heap.size, 2, none⟩ = some (.slice p9 xl c9) ∧ w'.cell? ⟨b, o + 3, none⟩ = some (.string s1) ∧ w'.cell? ⟨b, o + 3 + 1, none⟩ = some (.slice p1 a1 d1) ∧ w'.cell? ⟨b, o + 3 + 1 + 1, none⟩ = some (.slice l1 z1 c1) ∧ Hid (Below W9.heap.size W9 w')) := Lib.hid (fun w' g => ⟨((H4.out.step0 Q9.out).step0 g).cell 0, ((H4.out.step0 Q9.out).step0 g).cell 1, ((H4.out.step0 Q9.out).step0 g).cell 2, (M1.out _ (next0 K9.out g)).1.1, (M1.out _ (next0 K9.out g)).1.2.1, (M1.out _ (next0 K9.out g)).1.2.2, Lib.hid g⟩)
  have KP : Hid (∀ w', Below W9.heap.size W9 w' → Calls Tryz.prog 18 #[.agg #[.string xn, .slice q xa d, .slice p9 xl c9], .agg #[.string s1, .slice p1 a1 d1, .slice l1 z1 c1]] w' fun e w'' => e = .returned (.bool true) ∧ Gr w' w'') := Lib.hid (fun w' k => PX9.out w' k)
  clear M0 M1 M2 M3 M4 H4 Q9 PX9 SM23 SM24 J9 J4 K3 K4 K5 K6 K7 Q7 KC3 KC4 HW K2 K9
  go_upto_region 7 with fail
  rw [← hW9]
  clear hW9
  go_cut [0] (fun s0 wx => s0 = .bool true ∧ Hid (Below W9.heap.size W9 wx))
  case first =>
    have hs0 := Hb.out _ (Below.refl _ W9).drew
    go_region_held3 (fun w' => w'.cell? ⟨w3.heap.size, 0, none⟩ = some (.string xn) ∧ w'.cell? ⟨w3.heap.size, 1, none⟩ = some (.slice q xa d) ∧ w'.cell? ⟨w3.heap.size, 2, none⟩ = some (.slice p9 xl c9) ∧ w'.cell? ⟨b, o + 3, none⟩ = some (.string s1) ∧ w'.cell? ⟨b, o + 3 + 1, none⟩ = some (.slice p1 a1 d1) ∧ w'.cell? ⟨b, o + 3 + 1 + 1, none⟩ = some (.slice l1 z1 c1) ∧ Hid (Below W9.heap.size W9 w'))
      (first | (with_reducible assumption) | (with_reducible exact ⟨‹_›, ‹_›, ‹_›, ‹_›, ‹_›, ‹_›, ‹_›⟩) | (with_reducible refine Hb.out _ ?_; repeat (first | (with_reducible exact Hid.out (by assumption)) | (with_reducible exact Below.refl _ _) | (with_reducible refine Below.drew ?_))))
      (first | (go_at_call 18; (try go_split_ands); (with_reducible refine (KP.out _ (by repeat (first | (with_reducible exact Hid.out (by assumption)) | (with_reducible exact Below.refl _ _) | (with_reducible refine Below.drew ?_)))).mono ?_); rintro e w10 ⟨rfl, q0⟩; (have qg : Below W9.heap.size W9 w10 := by (refine next0 ?_ q0.1; repeat (first | (with_reducible exact Hid.out (by assumption)) | (with_reducible exact Below.refl _ _) | (with_reducible refine Below.drew ?_)))); clear q0; obtain ⟨z1', z2', z3', z4', z5', z6', z7'⟩ := Hb.out _ qg))
    all_goals
      go_wp2_with fail
      go_meet
      exact ⟨rfl, Lib.hid qg⟩
  case rest =>
  obtain ⟨rfl, KE⟩ := hcut
  go_wp2_with fail
  go_ret
  exact ⟨rfl, next0 KF.out KE.out⟩
end NosY
end Go.Proofs.YtdkpflojdnkbnaaGreatDoor
/- small of the laws; the walk of NormalOrder, of NormalCompares. Conditions: the heads' keys are short where they are small; term.Text's table is laid. -/
namespace Go.Proofs.YtdkpflojdnkbnaaGreatDoor
open Go Go.RowKit
namespace NolA
open Kit LexM TermM TermI TermN TermU TermT UniK UniM UnpP LigM SmrA NorM NorH
theorem b_more {W w : World} (h : Below W.heap.size W w) (o : Obj) : Below W.heap.size W (w.alloc o) := h.alloc h.size o
/-- The rules of a row that was just made. -/
theorem rin_has {ok : Nat → Prop} {w : World} {g : Nat} {L : List (Rl × Value × Value)} (hH : Has w g (KR.flat L).toArray) (hin : ∀ x ∈ L, KR.inn ok w x) (hg : ok g) (hm : L.length ≤ 1000) : RIn ok w (L.map (·.1)) (.slice (some ⟨g, 0, none⟩) L.length L.length) := by
  refine ⟨L, rfl, some ⟨g, 0, none⟩, L.length, rfl, Nat.le_refl _, by unfold maxLen; omega, hin, fun _ => ⟨g, 0, rfl, hg, fun i x hx j u hu => ?_⟩⟩
  have f := flat_get (K := KR) L i x hx j u hu
  rw [show 0 + i * 3 + j = i * 3 + j by omega, hH.cell, List.getElem?_toArray]
  exact f
set_option maxRecDepth 100000 in
set_option maxHeartbeats 1600000 in
theorem small_any (N : Nat) (h4 : 4 ≤ N) (hN : (N + 3) * 4000000 ≤ 4611686018427387904) (l : List Rl) (w : World) (lv : Value) (hl : RIn (· < w.heap.size) w l lv) (hk : ∀ r ∈ l, sizeT r.1 ≤ 20 → klen r.1 ≤ N) :
    Calls Tryz.prog 10 #[lv] w (SmrQ l 12 w) := by
  have CS := Lib.hid (rules_any N h4 hN l 12 (by omega) w lv hl hk)
  unfold SmrQ at CS ⊢
  obtain ⟨p, c, rfl⟩ := hl.form
  clear hl hk
  go_enter Tryz.func10, Tryz.ntmps10
  go_wp2_with fail
  refine CS.out.mono ?_
  rintro e w2 ⟨b, rfl, hb, k⟩
  have HB := Lib.hid hb
  have K := Lib.hid k
  clear hb k CS
  go_wp2_with fail
  go_ret
  exact ⟨b, rfl, HB.out, K.out⟩
theorem cmp_r (x y : Rl) (B : Nat) (w : World) (sv sv' v v' : Value) (hB : B ≤ w.heap.size) (hx : SlIn (· < B) w x.1.args sv) (hy : SlIn (· < B) w y.1.args sv') (hn : x.1.nm.size ≤ maxLen) (hn' : y.1.nm.size ≤ maxLen) (h : LIn (· < B) w x.2 v) (h' : LIn (· < B) w y.2 v') :
    Calls Tryz.prog 12 #[.agg #[.string x.1.nm, sv, v], .agg #[.string y.1.nm, sv', v']] w fun e w' => e = .returned (.int .i64 (cmpR x y)) ∧ Gr w w' := NorA.cmpr_any x.1 y.1 x.2 y.2 B w sv sv' v v' hB hx hy hn hn' h h'
set_option maxRecDepth 100000 in
set_option maxHeartbeats 6400000 in
theorem order (N : Nat) (h4 : 4 ≤ N) (hN : (N + 3) * 4000000 ≤ 4611686018427387904) (a b c : Rl) (w : World) (sa ta sb tb sc tc : Value) (hw : Wd w) (hna : a.1.nm.size ≤ maxLen) (ha : SlIn (· < w.heap.size) w a.1.args sa) (hla : LIn (· < w.heap.size) w a.2 ta) (hka : sizeT a.1 ≤ 20 → klen a.1 ≤ N) (hnb : b.1.nm.size ≤ maxLen) (hb : SlIn (· < w.heap.size) w b.1.args sb) (hlb : LIn (· < w.heap.size) w b.2 tb) (hkb : sizeT b.1 ≤ 20 → klen b.1 ≤ N) (hnc : c.1.nm.size ≤ maxLen) (hc : SlIn (· < w.heap.size) w c.1.args sc) (hlc : LIn (· < w.heap.size) w c.2 tc) (hkc : sizeT c.1 ≤ 20 → klen c.1 ≤ N) :
    Calls Tryz.prog 8 #[.agg #[.string a.1.nm, sa, ta], .agg #[.string b.1.nm, sb, tb], .agg #[.string c.1.nm, sc, tc]] w fun e w' => e = .returned (.bool true) ∧ Below w.heap.size w w' := by
  obtain ⟨pa, ca, rfl⟩ := ha.form
  obtain ⟨qa, da, rfl⟩ := hla.form
  obtain ⟨pb, cb, rfl⟩ := hb.form
  obtain ⟨qb, db, rfl⟩ := hlb.form
  obtain ⟨pc, cc, rfl⟩ := hc.form
  obtain ⟨qc, dc, rfl⟩ := hlc.form
  obtain ⟨W2, hW2⟩ : ∃ W2, W2 = ((w.alloc (.cells #[.string a.1.nm, .slice pa a.1.args.length ca, .slice qa a.2.length da] 27)).alloc (.cells #[.string b.1.nm, .slice pb b.1.args.length cb, .slice qb b.2.length db] 27)).alloc (.cells #[.string c.1.nm, .slice pc c.1.args.length cc, .slice qc c.2.length dc] 27) := ⟨_, rfl⟩
  have G0 : Hid (Below w.heap.size w W2) := Lib.hid (by rw [hW2]; exact b_more (b_more (below_alloc w _) _) _)
  have ZW : Hid (w.heap.size ≤ W2.heap.size) := Lib.hid G0.out.size
  have Ha : Has W2 w.heap.size #[.string a.1.nm, .slice pa a.1.args.length ca, .slice qa a.2.length da] := by rw [hW2]; exact ((Has.new _ _ _).alloc _).alloc _
  have HbX : Has W2 (w.heap.size + 1) #[.string b.1.nm, .slice pb b.1.args.length cb, .slice qb b.2.length db] := by rw [hW2]; exact (Has.new1 _ _ _ _).alloc _
  have Hc : Has W2 (w.heap.size + 1 + 1) #[.string c.1.nm, .slice pc c.1.args.length cc, .slice qc c.2.length dc] := by rw [hW2]; exact Has.new2 _ _ _ _ _
  have QW : ∀ w', Below W2.heap.size W2 w' → Below w.heap.size w w' := fun w' q => G0.out.trans (q.mono ZW.out)
  have CA := Lib.hid (fun w' (q : Below W2.heap.size W2 w') => NosY.awake_any w' (hw.below (QW w' q) hw.1))
  obtain ⟨W4, hW4⟩ : ∃ W4, W4 = W2.alloc (.cells #[.string a.1.nm, .slice pa a.1.args.length ca, .slice qa a.2.length da, .string b.1.nm, .slice pb b.1.args.length cb, .slice qb b.2.length db, .string c.1.nm, .slice pc c.1.args.length cc, .slice qc c.2.length dc] 27) := ⟨_, rfl⟩
  have J4 : Hid (Below W2.heap.size W2 W4) := Lib.hid (by rw [hW4]; exact below_alloc _ _)
  have CS := Lib.hid (small_any N h4 hN [a, b, c] W4 _ (rin_has (ok := (· < W4.heap.size)) (g := W2.heap.size) (L := [(a, .slice pa a.1.args.length ca, .slice qa a.2.length da), (b, .slice pb b.1.args.length cb, .slice qb b.2.length db), (c, .slice pc c.1.args.length cc, .slice qc c.2.length dc)]) (by rw [hW4]; exact Has.new _ _ _) (fun x hx => by
    simp only [List.mem_cons, List.not_mem_nil, or_false] at hx
    have hz : w.heap.size ≤ W4.heap.size := (QW W4 J4.out).size
    rcases hx with rfl | rfl | rfl
    · exact ⟨(ha.deep (QW W4 J4.out) (Nat.le_refl _)).weaken fun b hb => Nat.lt_of_lt_of_le hb hz, hna, (hla.keep fun b o hb => (QW W4 J4.out).cell (p := ⟨b, o, none⟩) hb).wide fun b hb => Nat.lt_of_lt_of_le hb hz⟩
    · exact ⟨(hb.deep (QW W4 J4.out) (Nat.le_refl _)).weaken fun b hb => Nat.lt_of_lt_of_le hb hz, hnb, (hlb.keep fun b o hb => (QW W4 J4.out).cell (p := ⟨b, o, none⟩) hb).wide fun b hb => Nat.lt_of_lt_of_le hb hz⟩
    · exact ⟨(hc.deep (QW W4 J4.out) (Nat.le_refl _)).weaken fun b hb => Nat.lt_of_lt_of_le hb hz, hnc, (hlc.keep fun b o hb => (QW W4 J4.out).cell (p := ⟨b, o, none⟩) hb).wide fun b hb => Nat.lt_of_lt_of_le hb hz⟩
    ) (by rw [hW4]; simp) (by simp)) (fun x hx => by
    simp only [List.mem_cons, List.not_mem_nil, or_false] at hx
    rcases hx with rfl | rfl | rfl
    · exact hka
    · exact hkb
    · exact hkc
    ))
  unfold SmrQ at CS
  have Kab := Lib.hid (fun w' (q : Below W2.heap.size W2 w') => (cmp_r a b w.heap.size w' _ _ _ _ (Nat.le_trans ZW.out q.size) (ha.deep (QW w' q) (Nat.le_refl _)) (hb.deep (QW w' q) (Nat.le_refl _)) hna hnb (hla.keep fun b o hb => (QW w' q).cell (p := ⟨b, o, none⟩) hb) (hlb.keep fun b o hb => (QW w' q).cell (p := ⟨b, o, none⟩) hb)).mono (fun e w'' (h : _ ∧ Gr w' w'') => (⟨h.1, h.2.1⟩ : _ ∧ Below w'.heap.size w' w'')))
  have Kbc := Lib.hid (fun w' (q : Below W2.heap.size W2 w') => (cmp_r b c w.heap.size w' _ _ _ _ (Nat.le_trans ZW.out q.size) (hb.deep (QW w' q) (Nat.le_refl _)) (hc.deep (QW w' q) (Nat.le_refl _)) hnb hnc (hlb.keep fun b o hb => (QW w' q).cell (p := ⟨b, o, none⟩) hb) (hlc.keep fun b o hb => (QW w' q).cell (p := ⟨b, o, none⟩) hb)).mono (fun e w'' (h : _ ∧ Gr w' w'') => (⟨h.1, h.2.1⟩ : _ ∧ Below w'.heap.size w' w'')))
  have Kac := Lib.hid (fun w' (q : Below W2.heap.size W2 w') => (cmp_r a c w.heap.size w' _ _ _ _ (Nat.le_trans ZW.out q.size) (ha.deep (QW w' q) (Nat.le_refl _)) (hc.deep (QW w' q) (Nat.le_refl _)) hna hnc (hla.keep fun b o hb => (QW w' q).cell (p := ⟨b, o, none⟩) hb) (hlc.keep fun b o hb => (QW w' q).cell (p := ⟨b, o, none⟩) hb)).mono (fun e w'' (h : _ ∧ Gr w' w'') => (⟨h.1, h.2.1⟩ : _ ∧ Below w'.heap.size w' w'')))
  have Kba := Lib.hid (fun w' (q : Below W2.heap.size W2 w') => (cmp_r b a w.heap.size w' _ _ _ _ (Nat.le_trans ZW.out q.size) (hb.deep (QW w' q) (Nat.le_refl _)) (ha.deep (QW w' q) (Nat.le_refl _)) hnb hna (hlb.keep fun b o hb => (QW w' q).cell (p := ⟨b, o, none⟩) hb) (hla.keep fun b o hb => (QW w' q).cell (p := ⟨b, o, none⟩) hb)).mono (fun e w'' (h : _ ∧ Gr w' w'') => (⟨h.1, h.2.1⟩ : _ ∧ Below w'.heap.size w' w'')))
  have KE := Lib.hid (fun w' (q : Below W2.heap.size W2 w') => (rule_eq a.1 b.1 a.2 b.2 (cmpR a b == 0) (by rw [beq_iff_eq, r_zero, Prod.ext_iff]) w.heap.size w' _ _ _ _ (Nat.le_trans ZW.out q.size) (ha.deep (QW w' q) (Nat.le_refl _)) (hb.deep (QW w' q) (Nat.le_refl _)) (hla.keep fun b o hb => (QW w' q).cell (p := ⟨b, o, none⟩) hb) (hlb.keep fun b o hb => (QW w' q).cell (p := ⟨b, o, none⟩) hb)).mono (fun e w'' (h : _ ∧ Gr w' w'') => (⟨h.1, h.2.1⟩ : _ ∧ Below w'.heap.size w' w'')))
  have Hb : Hid (∀ w', Below W2.heap.size W2 w' → w'.cell? ⟨w.heap.size, 0, none⟩ = some (.string a.1.nm) ∧ w'.cell? ⟨w.heap.size, 1, none⟩ = some (.slice pa a.1.args.length ca) ∧ w'.cell? ⟨w.heap.size, 2, none⟩ = some (.slice qa a.2.length da) ∧ w'.cell? ⟨w.heap.size + 1, 0, none⟩ = some (.string b.1.nm) ∧ w'.cell? ⟨w.heap.size + 1, 1, none⟩ = some (.slice pb b.1.args.length cb) ∧ w'.cell? ⟨w.heap.size + 1, 2, none⟩ = some (.slice qb b.2.length db) ∧ w'.cell? ⟨w.heap.size + 1 + 1, 0, none⟩ = some (.string c.1.nm) ∧ w'.cell? ⟨w.heap.size + 1 + 1, 1, none⟩ = some (.slice pc c.1.args.length cc) ∧ w'.cell? ⟨w.heap.size + 1 + 1, 2, none⟩ = some (.slice qc c.2.length dc) ∧ Hid (Below W2.heap.size W2 w') ∧ W2.heap.size ≤ w'.heap.size) := Lib.hid (fun w' q => ⟨(Ha.step0 q).cell 0, (Ha.step0 q).cell 1, (Ha.step0 q).cell 2, (HbX.step0 q).cell 0, (HbX.step0 q).cell 1, (HbX.step0 q).cell 2, (Hc.step0 q).cell 0, (Hc.step0 q).cell 1, (Hc.step0 q).cell 2, Lib.hid q, q.size⟩)
  have QH := Lib.hid QW
  have T1 := tri_r a b c
  have T2 := r_neg a b
  obtain ⟨rx1, rx2⟩ := r_rng a b
  obtain ⟨ry1, ry2⟩ := r_rng b c
  obtain ⟨rz1, rz2⟩ := r_rng a c
  generalize cmpR b a = x' at *
  generalize cmpR a b = x at *
  generalize cmpR b c = y at *
  generalize cmpR a c = z at *
  have i1 : decide (x < -1) = false := by simp; omega
  have i2 : decide (1 < x) = false := by simp; omega
  have i2' : decide (x > 1) = false := by simp; omega
  have i3 : IntKind.i64.wrap (-x') = x := by rw [T2, Int.neg_neg]; exact IntWalk.i64_in _ (by omega)
  have i4 : (x != x) = false := by simp
  have U1 := Lib.hid T1
  have U3 := Lib.hid (And.intro rx1 rx2)
  have U4 := Lib.hid (And.intro ry1 ry2)
  have U5 := Lib.hid (And.intro rz1 rz2)
  clear ha hb hc hla hlb hlc Ha HbX Hc QW hw T1 T2 rx1 rx2 ry1 ry2 rz1 rz2 hka hkb hkc hna hnb hnc h4 hN
  generalize a.1.nm = na at *
  generalize a.1.args.length = la at *
  generalize a.2.length = ma at *
  generalize b.1.nm = nb at *
  generalize b.1.args.length = lb at *
  generalize b.2.length = mb at *
  generalize c.1.nm = nc at *
  generalize c.1.args.length = lc at *
  generalize c.2.length = mc at *
  obtain ⟨r1, r2, r3, r4, r5, r6, r7, r8, r9, r10, r11⟩ := Hb.out _ (Below.refl _ _)
  go_enter Tryz.func8, Tryz.ntmps8
  go_upto_region 1 with fail
  rw [← hW2]
  clear hW2
  go_wp2_with fail
  rw [← hW4]
  clear hW4
  refine CS.out.mono ?_
  rintro e w3 ⟨B, rfl, hB0, k⟩
  clear hB0
  clear r1 r2 r3 r4 r5 r6 r7 r8 r9 r10 r11 CS
  obtain ⟨y1, y2, y3, y4, y5, y6, y7, y8, y9, y10, y11⟩ := Hb.out _ (next0 J4.out k)
  clear k
  cases B
  · go_wp2_with fail
    refine (CA.out _ y10.out).mono ?_
    rintro e w4 ⟨rfl, k⟩
    have D := Lib.hid (next0 (QH.out _ y10.out) k)
    clear k
    go_wp2_with fail
    go_ret
    exact ⟨rfl, D.out⟩
  go_upto_region 3 with fail
  go_cut [7, 8, 9] (fun s7 s8 s9 wx => s7 = .int .i64 x ∧ s8 = .int .i64 y ∧ s9 = .int .i64 z ∧ Hid (Below W2.heap.size W2 wx))
  case first =>
    have hs0 := Hb.out _ (y10.out.drew)
    clear KE Kba CA QH
    go_region_held3 (fun w' => w'.cell? ⟨w.heap.size, 0, none⟩ = some (.string na) ∧ w'.cell? ⟨w.heap.size, 1, none⟩ = some (.slice pa la ca) ∧ w'.cell? ⟨w.heap.size, 2, none⟩ = some (.slice qa ma da) ∧ w'.cell? ⟨w.heap.size + 1, 0, none⟩ = some (.string nb) ∧ w'.cell? ⟨w.heap.size + 1, 1, none⟩ = some (.slice pb lb cb) ∧ w'.cell? ⟨w.heap.size + 1, 2, none⟩ = some (.slice qb mb db) ∧ w'.cell? ⟨w.heap.size + 1 + 1, 0, none⟩ = some (.string nc) ∧ w'.cell? ⟨w.heap.size + 1 + 1, 1, none⟩ = some (.slice pc lc cc) ∧ w'.cell? ⟨w.heap.size + 1 + 1, 2, none⟩ = some (.slice qc mc dc) ∧ Hid (Below W2.heap.size W2 w') ∧ W2.heap.size ≤ w'.heap.size)
      (first | (with_reducible assumption) | (with_reducible exact ⟨‹_›, ‹_›, ‹_›, ‹_›, ‹_›, ‹_›, ‹_›, ‹_›, ‹_›, ‹_›, ‹_›⟩) | (with_reducible refine Hb.out _ ?_; repeat (first | (with_reducible exact Hid.out (by assumption)) | (with_reducible exact Below.refl _ _) | (with_reducible refine Below.drew ?_) | (with_reducible refine b_more ?_ _))))
      (first | (go_at_call 12; (try go_split_ands); (first | (with_reducible refine (Kab.out _ (by repeat (first | (with_reducible exact Hid.out (by assumption)) | (with_reducible exact Below.refl _ _) | (with_reducible refine Below.drew ?_) | (with_reducible refine b_more ?_ _)))).mono ?_) | (with_reducible refine (Kbc.out _ (by repeat (first | (with_reducible exact Hid.out (by assumption)) | (with_reducible exact Below.refl _ _) | (with_reducible refine Below.drew ?_) | (with_reducible refine b_more ?_ _)))).mono ?_) | (with_reducible refine (Kac.out _ (by repeat (first | (with_reducible exact Hid.out (by assumption)) | (with_reducible exact Below.refl _ _) | (with_reducible refine Below.drew ?_) | (with_reducible refine b_more ?_ _)))).mono ?_)); rintro e w' ⟨rfl, q0⟩; (have qg : Below W2.heap.size W2 w' := by (refine next0 ?_ q0; repeat (first | (with_reducible exact Hid.out (by assumption)) | (with_reducible exact Below.refl _ _) | (with_reducible refine Below.drew ?_) | (with_reducible refine b_more ?_ _)))); clear q0; obtain ⟨z1, z2, z3, z4, z5, z6, z7, z8, z9, z10, z11⟩ := Hb.out _ qg))
    all_goals
      go_wp2_with fail
      go_meet
      exact ⟨rfl, rfl, rfl, Lib.hid qg⟩
  case rest =>
    obtain ⟨rfl, rfl, rfl, hq⟩ := hcut
    clear y1 y2 y3 y4 y5 y6 y7 y8 y9 y10 y11 Kab Kbc Kac
    obtain ⟨y1, y2, y3, y4, y5, y6, y7, y8, y9, y10, y11⟩ := Hb.out _ hq.out
    clear hq
    go_wp2_with fail
    refine (Kba.out _ y10.out).mono ?_
    rintro e w6 ⟨rfl, k⟩
    obtain ⟨v1, v2, v3, v4, v5, v6, v7, v8, v9, v10, v11⟩ := Hb.out _ (next0 y10.out k)
    clear k y1 y2 y3 y4 y5 y6 y7 y8 y9 y10 y11
    go_wp2_with fail
    refine (KE.out _ v10.out).mono ?_
    rintro e w7 ⟨rfl, k⟩
    obtain ⟨y1, y2, y3, y4, y5, y6, y7, y8, y9, y10, y11⟩ := Hb.out _ (next0 v10.out k)
    clear k v1 v2 v3 v4 v5 v6 v7 v8 v9 v10 v11 KE Kba
    go_upto_region 6 with fail
    go_cut [75] (fun s75 wx => s75 = .bool false ∧ wx = w7)
    case first =>
      clear CA Hb QH G0 y1 y2 y3 y4 y5 y6 y7 y8 y9 y10 y11 i1 i2 i2' i3 i4
      have HM1 : x ≤ 0 → y ≤ 0 → (z != min x y) = false := fun h1 h2 => by
        have h := U1.out; have a1 := U3.out; have a2 := U4.out; have a3 := U5.out
        unfold Tri at h
        rw [bne_eq_false_iff_eq]
        omega
      have HM2 : 0 ≤ x → 0 ≤ y → (z != max x y) = false := fun h1 h2 => by
        have h := U1.out; have a1 := U3.out; have a2 := U4.out; have a3 := U5.out
        unfold Tri at h
        rw [bne_eq_false_iff_eq]
        omega
      have HM1 := Lib.hid HM1
      have HM2 := Lib.hid HM2
      by_cases hx : x ≤ 0 <;> by_cases hy : y ≤ 0 <;> by_cases hx' : 0 ≤ x <;> by_cases hy' : 0 ≤ y
      all_goals
        first
          | (exfalso; omega)
          | (have m1 := HM1.out hx hy; have m2 := HM2.out hx' hy'; clear HM1 HM2 U1 U3 U4 U5; go_wp2_with fail; go_meet; exact ⟨rfl, rfl⟩)
          | (have m1 := HM1.out hx hy; clear HM1 HM2 U1 U3 U4 U5; go_wp2_with fail; go_meet; exact ⟨rfl, rfl⟩)
          | (have m2 := HM2.out hx' hy'; clear HM1 HM2 U1 U3 U4 U5; go_wp2_with fail; go_meet; exact ⟨rfl, rfl⟩)
          | (clear HM1 HM2 U1 U3 U4 U5; go_wp2_with fail; go_meet; exact ⟨rfl, rfl⟩)
    case rest =>
      obtain ⟨rfl, rfl⟩ := hcut
      go_wp2_with fail
      refine (CA.out _ y10.out).mono ?_
      rintro e w9 ⟨rfl, k⟩
      have D := Lib.hid (next0 (QH.out _ y10.out) k)
      clear k
      go_wp2_with fail
      go_ret
      exact ⟨rfl, D.out⟩
end NolA
end Go.Proofs.YtdkpflojdnkbnaaGreatDoor
