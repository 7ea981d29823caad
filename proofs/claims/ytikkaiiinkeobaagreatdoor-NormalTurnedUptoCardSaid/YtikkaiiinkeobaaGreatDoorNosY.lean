/- awake of the laws of normal forms: the examples of the chapter hold. Condition: term.Text's table is laid. -/
import Derived.Test.YtikkaiiinkeobaaGreatDoorNosX
import Derived.Deep.DeepCutAuto
import Derived.Deep.RegionHeld3
namespace Go.Proofs.YtikkaiiinkeobaaGreatDoor
open Go Go.RowKit
namespace NosY
open Kit LexM TermM TermI TermN TermU TermT UniK UniM UnpP NorM NorH NosF NosV NosH NosI NosX
/-- A rule of a list in memory, at its place. -/
def At (w : World) (b o : Nat) (r : Rl) (q : Option Addr) (d : Nat) (lp : Option Addr) (lc : Nat) : Prop :=
  w.cell? ⟨b, o, none⟩ = some (.string r.1.nm) ∧ w.cell? ⟨b, o + 1, none⟩ = some (.slice q r.1.args.length d) ∧ w.cell? ⟨b, o + 2, none⟩ = some (.slice lp r.2.length lc)
def Mem (B : Nat) (w : World) (b o : Nat) (r : Rl) (q : Option Addr) (d : Nat) (lp : Option Addr) (lc : Nat) : Prop :=
  At w b o r q d lp lc ∧ SlIn (· < B) w r.1.args (.slice q r.1.args.length d) ∧ r.1.nm.size ≤ maxLen ∧ LIn (· < B) w r.2 (.slice lp r.2.length lc)
theorem Mem.deep {B b o : Nat} {w w' : World} {r : Rl} {q : Option Addr} {d : Nat} {lp : Option Addr} {lc : Nat} (h : Mem B w b o r q d lp lc) (hb : b < B) (k : Below B w w') : Mem B w' b o r q d lp lc :=
  ⟨⟨(k.cell (p := ⟨b, o, none⟩) hb).trans h.1.1, (k.cell (p := ⟨b, o + 1, none⟩) hb).trans h.1.2.1, (k.cell (p := ⟨b, o + 2, none⟩) hb).trans h.1.2.2⟩, h.2.1.deep k (Nat.le_refl _), h.2.2.1, h.2.2.2.keep fun b o hb => k.cell (p := ⟨b, o, none⟩) hb⟩
theorem row_mem {B : Nat} {w : World} {l : List Rl} {p : Option Addr} {b o : Nat} (h : RowR B w l p) (hp : p = some ⟨b, o, none⟩) {k : Nat} {r : Rl} (hr : l[k]? = some r) : b < B ∧ ∃ q d lp lc, Mem B w b (o + k * 3) r q d lp lc := by
  obtain ⟨t, b', o', q, d, lp, lc, h1, h2, h3, h4, h5, h6, h7, h8, h9⟩ := h k (List.getElem?_eq_some_iff.1 hr).1
  rw [hp] at h2
  injection h2 with h2
  injection h2 with e1 e2
  subst e1 e2
  rw [hr] at h1
  obtain rfl := Option.some.inj h1
  exact ⟨h3, q, d, lp, lc, ⟨h4, h5, h6⟩, h7, h8, h9⟩
theorem read5 {w : World} {v : Value} (h : RIn (· < w.heap.size) w [e0, e1, e2, e3, e4] v) : ∃ (b o c : Nat) (r0 r1 r2 r3 r4 : Rl), v = .slice (some ⟨b, o, none⟩) 5 c ∧ b < w.heap.size ∧ r0 = e0 ∧ r1 = e1 ∧ r2 = e2 ∧ r3 = e3 ∧ r4 = e4 ∧
    (∃ q d lp lc, Mem w.heap.size w b o r0 q d lp lc) ∧ (∃ q d lp lc, Mem w.heap.size w b (o + 3) r1 q d lp lc) ∧ (∃ q d lp lc, Mem w.heap.size w b (o + 6) r2 q d lp lc) ∧ (∃ q d lp lc, Mem w.heap.size w b (o + 9) r3 q d lp lc) ∧ ∃ q d lp lc, Mem w.heap.size w b (o + 12) r4 q d lp lc := by
  obtain ⟨p, c, rfl, _, _, hR⟩ := NorH.RIn.row h
  obtain ⟨_, b, o, _, _, _, _, _, hp, _⟩ := hR 0 (by decide)
  subst hp
  refine ⟨b, o, c, e0, e1, e2, e3, e4, rfl, (row_mem hR rfl (k := 0) rfl).1, rfl, rfl, rfl, rfl, rfl, ?_, ?_, ?_, ?_, ?_⟩
  · exact (row_mem hR rfl (k := 0) rfl).2
  · exact (row_mem hR rfl (k := 1) rfl).2
  · exact (row_mem hR rfl (k := 2) rfl).2
  · exact (row_mem hR rfl (k := 3) rfl).2
  · exact (row_mem hR rfl (k := 4) rfl).2
set_option maxRecDepth 100000 in
set_option maxHeartbeats 6400000 in
theorem awake_any (w : World) (hw : Wd w) : Calls Tryz.prog 11 #[] w fun e w' => e = .returned (.bool true) ∧ Below w.heap.size w w' := by
  have RD := Lib.hid (RdF.read_any ⟨exTxt.toArray⟩ (by decide) (by simpa using ex_ok) w)
  rw [show (⟨exTxt.toArray⟩ : ByteArray).data.toList = exTxt by simp, ex_read] at RD
  unfold RdF.RsQ at RD
  have HW := Lib.hid hw
  clear hw
  go_enter Tryz.func11, Tryz.ntmps11
  go_wp2_with fail
  refine RD.out.mono ?_
  rintro e w2 ⟨v, rfl, hin, k2⟩
  have K2 := Lib.hid k2
  obtain ⟨b, o, c, r0, r1, r2, r3, r4, rfl, hb, q0, q1, q2, q3, q4, ⟨p0, d0, l0, c0, m0⟩, ⟨p1, d1, l1, c1, m1⟩, ⟨p2, d2, l2, c2, m2⟩, ⟨p3, d3, l3, c3, m3⟩, ⟨p4, d4, l4, c4, m4⟩⟩ := read5 (hin.wide (ok' := (· < w2.heap.size)) fun b hb => hb.2)
  have RN0 : Hid (Calls Tryz.prog 14 #[.agg #[.string r0.1.nm, .slice p0 r0.1.args.length d0, .slice l0 r0.2.length c0]] w2 fun e w' => ∃ (x : Rl) (q : Option Addr) (d : Nat) (p9 : Option Addr) (c9 : Nat), e = .returned (.tuple #[.agg #[.string x.1.nm, .slice q x.1.args.length d, .slice p9 x.2.length c9], .int .i64 0]) ∧ x = e1 ∧ SlIn (· < w'.heap.size) w' x.1.args (.slice q x.1.args.length d) ∧ LIn (· < w'.heap.size) w' x.2 (.slice p9 x.2.length c9) ∧ Below w2.heap.size w2 w') := Lib.hid ((rule_any r0.1 r0.2 w2.heap.size w2 _ _ (Nat.le_refl _) m0.2.1 m0.2.2.2 m0.2.2.1).mono fun e w' ⟨x, q, d, v, he, hnf, hs, hl, hn, k⟩ => by
    have er : (r0.1, r0.2) = e0 := q0
    rw [er] at he hnf
    rw [x0.1] at he
    obtain ⟨p9, c9, rfl⟩ := hl.form
    exact ⟨x, q, d, p9, c9, he, nf_det hnf x0.2, hs.weaken fun b hb => hb.2, hl.wide fun b hb => hb.2, k⟩)
  have SM23 := Lib.hid (fun w' (k : Below w2.heap.size w2 w') => show Calls Tryz.prog 16 _ w' (fun e w'' => e = .returned (.tuple #[.bool true, .int .i64 0]) ∧ Below w'.heap.size w' w'') from (same_any r2 r3 w2.heap.size w' _ _ _ _ (HW.out.below (next0 K2.out k) HW.out.1) k.size (m2.deep hb k).2.1 (m2.deep hb k).2.2.2 m2.2.2.1 (m3.deep hb k).2.1 (m3.deep hb k).2.2.2 m3.2.2.1).mono fun e w'' ⟨R, c, he, hq, kk⟩ => by
    rw [q2, q3] at hq
    obtain ⟨h1, h2⟩ := s23 hq
    subst h1 h2
    exact ⟨he, kk⟩)
  have SM24 := Lib.hid (fun w' (k : Below w2.heap.size w2 w') => show Calls Tryz.prog 16 _ w' (fun e w'' => e = .returned (.tuple #[.bool false, .int .i64 0]) ∧ Below w'.heap.size w' w'') from (same_any r2 r4 w2.heap.size w' _ _ _ _ (HW.out.below (next0 K2.out k) HW.out.1) k.size (m2.deep hb k).2.1 (m2.deep hb k).2.2.2 m2.2.2.1 (m4.deep hb k).2.1 (m4.deep hb k).2.2.2 m4.2.2.1).mono fun e w'' ⟨R, c, he, hq, kk⟩ => by
    rw [q2, q4] at hq
    obtain ⟨h1, h2⟩ := s24 hq
    subst h1 h2
    exact ⟨he, kk⟩)
  have RL := Lib.hid (fun w' (k : Below w2.heap.size w2 w') => show Calls Tryz.prog 20 _ w' (fun e w'' => ∃ p5 c5, e = .returned (.tuple #[.slice p5 3 c5, .int .i64 0]) ∧ Below w'.heap.size w' w'') from (rules_any [e0, e1, e2, e3, e4] w2.heap.size w' _ (HW.out.below (next0 K2.out k) HW.out.1) k.size ((hin.wide (ok' := (· < w2.heap.size)) fun b hb => hb.2).keep (w' := w') fun b o hb => k.cell (p := ⟨b, o, none⟩) hb)).mono fun e w'' ⟨m, v, he, hr, hi, kk⟩ => by
    obtain ⟨p5, c5, rfl⟩ := hi.form
    rw [ex_codes, ex_len hr] at he
    exact ⟨p5, c5, he, kk⟩)
  have RB : Hid (∀ w', Calls Tryz.prog 14 #[.agg #[.string ⟨#[88]⟩, .slice none 0 0, .slice none 0 0]] w' fun e w'' => ∃ q d p5 c5, e = .returned (.tuple #[.agg #[.string ⟨#[]⟩, .slice q 0 d, .slice p5 0 c5], .int .i64 13]) ∧ Below w'.heap.size w' w'') := Lib.hid (fun w' => (rule_any (lf nX) [] 0 w' (.slice none 0 0) (.slice none 0 0) (Nat.zero_le _) (SlIn.none _ _) (LIn.nil _ _) (by decide)).mono fun e w'' ⟨x, q, d, v, he, hnf, hs, hl, hn, kk⟩ => by
    obtain rfl := hnf.2 (by rw [bad]; decide)
    obtain ⟨p5, c5, rfl⟩ := hl.form
    rw [bad] at he
    exact ⟨q, d, p5, c5, he, kk⟩)
  have PL := Lib.hid (fun (x : Rl) (hx : x = e1) (w9 : World) (k9 : Below w2.heap.size w2 w9) (sv v : Value) (h1 : SlIn (· < w9.heap.size) w9 x.1.args sv) (h2 : LIn (· < w9.heap.size) w9 x.2 v) (w' : World) (k : Below w9.heap.size w9 w') =>
    rule_eq x.1 r1.1 x.2 r1.2 true ⟨fun _ => by rw [hx, q1]; exact ⟨rfl, rfl⟩, fun _ => rfl⟩ w9.heap.size w' sv _ v _ k.size (h1.deep k (Nat.le_refl _)) (((m1.deep hb (k9.trans (k.mono k9.size))).2.1).weaken fun b hb => Nat.lt_of_lt_of_le hb k9.size) (h2.keep fun b o hb => k.cell (p := ⟨b, o, none⟩) hb) (((m1.deep hb (k9.trans (k.mono k9.size))).2.2.2).wide fun b hb => Nat.lt_of_lt_of_le hb k9.size))
  have M0 := Lib.hid (fun w' (k : Below w2.heap.size w2 w') => m0.deep hb k)
  have M1 := Lib.hid (fun w' (k : Below w2.heap.size w2 w') => m1.deep hb k)
  have M2 := Lib.hid (fun w' (k : Below w2.heap.size w2 w') => m2.deep hb k)
  have M3 := Lib.hid (fun w' (k : Below w2.heap.size w2 w') => m3.deep hb k)
  have M4 := Lib.hid (fun w' (k : Below w2.heap.size w2 w') => m4.deep hb k)
  unfold Mem At at M0 M1 M2 M3 M4
  clear m0 m1 m2 m3 m4 hin k2 RD q0 q1 q2 q3 q4
  generalize r0.1.nm = s0 at *
  generalize r0.1.args.length = a0 at *
  generalize r0.2.length = z0 at *
  generalize r1.1.nm = s1 at *
  generalize r1.1.args.length = a1 at *
  generalize r1.2.length = z1 at *
  generalize r2.1.nm = s2 at *
  generalize r2.1.args.length = a2 at *
  generalize r2.2.length = z2 at *
  generalize r3.1.nm = s3 at *
  generalize r3.1.args.length = a3 at *
  generalize r3.2.length = z3 at *
  generalize r4.1.nm = s4 at *
  generalize r4.1.args.length = a4 at *
  generalize r4.2.length = z4 at *
  obtain ⟨f1, f2, f3⟩ := (M0.out _ (Below.refl _ _)).1
  go_wp2_with fail
  refine RN0.out.mono ?_
  rintro e w3 ⟨x, q, d, p9, c9, rfl, hx, hs3, hl3, k3⟩
  have HX := Lib.hid hx
  have S3 := Lib.hid hs3
  have L3 := Lib.hid hl3
  have K3 := Lib.hid k3
  clear hx hs3 hl3 k3 f1 f2 f3 RN0
  obtain ⟨W4, hW4⟩ : ∃ z, z = w3.alloc (.cells #[.string x.1.nm, .slice q x.1.args.length d, .slice p9 x.2.length c9] 27) := ⟨_, rfl⟩
  have J4 : Hid (Below w3.heap.size w3 W4) := Lib.hid (by rw [hW4]; exact below_alloc _ _)
  have H4 : Hid (Has W4 w3.heap.size #[.string x.1.nm, .slice q x.1.args.length d, .slice p9 x.2.length c9]) := Lib.hid (by rw [hW4]; exact Has.new _ _ _)
  have K4 := Lib.hid (next0 K3.out J4.out)
  have PX := Lib.hid (fun (w9 : World) (k9 : Below W4.heap.size W4 w9) => PL.out x HX.out w9 (next0 K4.out k9) (.slice q x.1.args.length d) (.slice p9 x.2.length c9) ((S3.out.deep (next0 J4.out k9) (Nat.le_refl _)).weaken fun b hb => Nat.lt_of_lt_of_le hb (next0 J4.out k9).size) ((L3.out.keep fun b o hb => (next0 J4.out k9).cell (p := ⟨b, o, none⟩) hb).wide fun b hb => Nat.lt_of_lt_of_le hb (next0 J4.out k9).size))
  clear PL HX S3 L3
  generalize x.1.nm = xn at *
  generalize x.1.args.length = xa at *
  generalize x.2.length = xl at *
  obtain ⟨f1, f2, f3⟩ := (M2.out _ K4.out).1
  obtain ⟨g1, g2, g3⟩ := (M3.out _ K4.out).1
  go_upto_region 3 with fail
  rw [← hW4]
  clear hW4
  go_cut [4, 5] (fun s4 s5 wx => s4 = .bool true ∧ s5 = .int .i64 0 ∧ Hid (Below W4.heap.size W4 wx))
  case first =>
    go_region_with (first | (go_at_call 16; refine (SM23.out _ (by first | exact K4.out | exact K4.out.drew | exact below_drewN K4.out _)).mono ?_; rintro e w5 ⟨rfl, k5⟩; have K5 : Hid (Below W4.heap.size W4 w5) := Lib.hid (by first | exact k5 | exact next0 (Below.refl _ _).drew k5 | exact next0 (below_drewN (Below.refl _ _) _) k5); clear k5))
    all_goals
      go_wp2_with fail
      go_meet
      exact ⟨rfl, rfl, K5⟩
  case rest =>
  obtain ⟨rfl, rfl, KC3⟩ := hcut
  clear f1 f2 f3 g1 g2 g3
  have K5 := Lib.hid (next0 K4.out KC3.out)
  obtain ⟨W5, hW5⟩ : ∃ z, z = wc := ⟨_, rfl⟩
  subst hW5
  obtain ⟨f1, f2, f3⟩ := (M2.out _ K5.out).1
  obtain ⟨g1, g2, g3⟩ := (M4.out _ K5.out).1
  go_upto_region 4 with fail
  go_cut [6, 7] (fun s4 s5 wx => s4 = .bool false ∧ s5 = .int .i64 0 ∧ Hid (Below W5.heap.size W5 wx))
  case first =>
    go_region_with (first | (go_at_call 16; refine (SM24.out _ (by first | exact K5.out | exact K5.out.drew | exact below_drewN K5.out _)).mono ?_; rintro e w5 ⟨rfl, k5⟩; have K5 : Hid (Below W5.heap.size W5 w5) := Lib.hid (by first | exact k5 | exact next0 (Below.refl _ _).drew k5 | exact next0 (below_drewN (Below.refl _ _) _) k5); clear k5))
    all_goals
      go_wp2_with fail
      go_meet
      exact ⟨rfl, rfl, K5⟩
  case rest =>
  obtain ⟨rfl, rfl, KC4⟩ := hcut
  clear f1 f2 f3 g1 g2 g3
  have K6 := Lib.hid (next0 K5.out KC4.out)
  go_wp2_with fail
  refine (RL.out _ K6.out).mono ?_
  rintro e w7 ⟨p5, c5, rfl, k7⟩
  have K7 := Lib.hid (next0 K6.out k7)
  have Q7 := Lib.hid (next0 (next0 KC3.out KC4.out) k7)
  clear k7 RL
  go_wp2_with fail
  refine (RB.out _).mono ?_
  rintro e w8 ⟨q8, d8, p8, c8, rfl, k8⟩
  obtain ⟨W9, hW9⟩ : ∃ z, z = w8.alloc (.cells #[.string ⟨#[]⟩, .slice q8 0 d8, .slice p8 0 c8] 27) := ⟨_, rfl⟩
  have J9 : Hid (Below w8.heap.size w8 W9) := Lib.hid (by rw [hW9]; exact below_alloc _ _)
  have K9 := Lib.hid (next0 (next0 K7.out k8) J9.out)
  have Q9 := Lib.hid (next0 (next0 Q7.out k8) J9.out)
  have PX9 := Lib.hid (fun w' k => PX.out W9 Q9.out w' k)
  clear k8 RB PX
  have KF := Lib.hid (next0 K2.out K9.out)
  have hg4 : w3.heap.size < W9.heap.size := (H4.out.step0 Q9.out).lt
  have hbb : b < W9.heap.size := Nat.lt_of_lt_of_le hb K9.out.size
  have Hb : Hid (∀ w', Below W9.heap.size W9 w' → w'.cell? ⟨w3.heap.size, 0, none⟩ = some (.string xn) ∧ w'.cell? ⟨w3.heap.size, 1, none⟩ = some (.slice q xa d) ∧ w'.cell? ⟨w3.heap.size, 2, none⟩ = some (.slice p9 xl c9) ∧ w'.cell? ⟨b, o + 3, none⟩ = some (.string s1) ∧ w'.cell? ⟨b, o + 3 + 1, none⟩ = some (.slice p1 a1 d1) ∧ w'.cell? ⟨b, o + 3 + 1 + 1, none⟩ = some (.slice l1 z1 c1) ∧ Hid (Below W9.heap.size W9 w')) := Lib.hid (fun w' g => ⟨((H4.out.step0 Q9.out).step0 g).cell 0, ((H4.out.step0 Q9.out).step0 g).cell 1, ((H4.out.step0 Q9.out).step0 g).cell 2, (M1.out _ (next0 K9.out g)).1.1, (M1.out _ (next0 K9.out g)).1.2.1, (M1.out _ (next0 K9.out g)).1.2.2, Lib.hid g⟩)
  have KP : Hid (∀ w', Below W9.heap.size W9 w' → Calls Tryz.prog 18 #[.agg #[.string xn, .slice q xa d, .slice p9 xl c9], .agg #[.string s1, .slice p1 a1 d1, .slice l1 z1 c1]] w' fun e w'' => e = .returned (.bool true) ∧ Gr w' w'') := Lib.hid (fun w' k => PX9.out w' k)
  clear M0 M1 M2 M3 M4 H4 Q9 PX9 SM23 SM24 J9 J4 K3 K4 K5 K6 K7 Q7 KC3 KC4 HW K2 K9
  go_upto_region 7 with fail
  rw [← hW9]
  clear hW9
  go_cut [0] (fun s0 wx => s0 = .bool true ∧ Hid (Below W9.heap.size W9 wx))
  case first =>
    have hs0 := Hb.out _ (Below.refl _ W9).drew
    go_region_held3 (fun w' => w'.cell? ⟨w3.heap.size, 0, none⟩ = some (.string xn) ∧ w'.cell? ⟨w3.heap.size, 1, none⟩ = some (.slice q xa d) ∧ w'.cell? ⟨w3.heap.size, 2, none⟩ = some (.slice p9 xl c9) ∧ w'.cell? ⟨b, o + 3, none⟩ = some (.string s1) ∧ w'.cell? ⟨b, o + 3 + 1, none⟩ = some (.slice p1 a1 d1) ∧ w'.cell? ⟨b, o + 3 + 1 + 1, none⟩ = some (.slice l1 z1 c1) ∧ Hid (Below W9.heap.size W9 w'))
      (first | (with_reducible assumption) | (with_reducible exact ⟨‹_›, ‹_›, ‹_›, ‹_›, ‹_›, ‹_›, ‹_›⟩) | (with_reducible refine Hb.out _ ?_; repeat (first | (with_reducible exact Hid.out (by assumption)) | (with_reducible exact Below.refl _ _) | (with_reducible refine Below.drew ?_))))
      (first | (go_at_call 18; (try go_split_ands); (with_reducible refine (KP.out _ (by repeat (first | (with_reducible exact Hid.out (by assumption)) | (with_reducible exact Below.refl _ _) | (with_reducible refine Below.drew ?_)))).mono ?_); rintro e w10 ⟨rfl, q0⟩; (have qg : Below W9.heap.size W9 w10 := by (refine next0 ?_ q0.1; repeat (first | (with_reducible exact Hid.out (by assumption)) | (with_reducible exact Below.refl _ _) | (with_reducible refine Below.drew ?_)))); clear q0; obtain ⟨z1', z2', z3', z4', z5', z6', z7'⟩ := Hb.out _ qg))
    all_goals
      go_wp2_with fail
      go_meet
      exact ⟨rfl, Lib.hid qg⟩
  case rest =>
  obtain ⟨rfl, KE⟩ := hcut
  go_wp2_with fail
  go_ret
  exact ⟨rfl, next0 KF.out KE.out⟩
end NosY
end Go.Proofs.YtikkaiiinkeobaaGreatDoor
