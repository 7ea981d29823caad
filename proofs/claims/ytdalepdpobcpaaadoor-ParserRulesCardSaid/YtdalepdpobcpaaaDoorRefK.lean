/- The reference's Rule; the walk of ParserRules. Conditions: the text's length; for the law: the reserved words lie as laid. -/
import Derived.Test.YtdalepdpobcpaaaDoorRefG
import Derived.Test.YtdalepdpobcpaaaDoorParAx
import Derived.Test.YtdalepdpobcpaaaDoorRefJ
import Derived.Deep.RegionHeld3
import Derived.Deep.DeepCutAuto
namespace Go.Proofs.YtdalepdpobcpaaaDoor
open Go Go.RowKit
namespace RefK
open Kit LexM TermM TermI TermU LexE LexF LexG LexP LexQ ParM ParA ParB ParC ParD ParK ParE ParG ParV ParN ParX ParX2 ParX3 RefA RefB RefC0 RefC RefD RefF RefJ0 RefJ RefG
set_option maxRecDepth 100000 in
set_option maxHeartbeats 3200000 in
theorem rrule_any (s : ByteArray) (w : World) (hs : s.size ≤ 140737488355328) :
    Calls Tryd.prog 16 #[.string s] w (WrR w (wholeF ruleF s.data.toList)) := by
  obtain ⟨W1, hW1⟩ : ∃ W1, W1 = w.alloc (.cells #[.string ⟨#[]⟩, .slice none 0 0, .slice none 0 0] 34) := ⟨_, rfl⟩
  have G1 : Below w.heap.size w W1 := by rw [hW1]; exact below_alloc w _
  have H1 : Hid (Has W1 w.heap.size #[.string ⟨#[]⟩, .slice none 0 0, .slice none 0 0]) := Lib.hid (by rw [hW1]; exact Has.new _ _ _)
  have HS1 : Hid (W1.heap.size = w.heap.size + 1) := Lib.hid (by rw [hW1]; simp)
  have GG := Lib.hid G1
  have HW1 := Lib.hid hW1
  clear G1
  by_cases h0 : (lexR s.data.toList).2.2 = 0
  case neg =>
    have BE := Lib.hid (begin_err s W1 hs h0)
    have HO : Hid (wholeF ruleF s.data.toList = .bad (lexR s.data.toList).2.1 (lexR s.data.toList).2.2) := Lib.hid (by unfold wholeF; rw [if_neg h0])
    have hE : ((lexR s.data.toList).2.2 != 0) = true := by rw [bne_iff_ne]; exact h0
    clear h0
    generalize wholeF ruleF s.data.toList = O at *
    generalize (lexR s.data.toList).2.2 = er at *
    generalize (lexR s.data.toList).2.1 = at_ at *
    unfold WrR
    go_enter Tryd.func16, Tryd.ntmps16
    go_upto_region 1 with fail
    rw [← hW1]
    clear hW1
    go_wp2_with fail
    refine BE.out.mono ?_
    rintro e w2 ⟨r, rfl, hr, hH, hB⟩
    have B2 := Lib.hid (next0 GG.out hB)
    obtain ⟨x1, x2, x3, x4, f1, f2, f3, hrl⟩ := has4 hH
    have HZ := Lib.hid (H1.out.step0 hB)
    have HR5 := Lib.hid hH
    have hneZ : w.heap.size ≠ r := by have := HS1.out; omega
    obtain ⟨q1, q2, q3, q4, q5, q6, q7⟩ := has3 (H1.out.step0 hB)
    clear hH hB BE
    go_upto_region 3 with fail
    have Hk : Hid (∀ w', Has w' r #[.slice none 0 0, .int .i64 0, .int .i64 at_, .int .i64 er] → w'.cell? ⟨r, 2, none⟩ = some (.int .i64 at_) ∧ w'.cell? ⟨r, 3, none⟩ = some (.int .i64 er) ∧ Hid (Has w' r #[.slice none 0 0, .int .i64 0, .int .i64 at_, .int .i64 er])) := Lib.hid (fun w' h => ⟨h.cell 2, h.cell 3, Lib.hid h⟩)
    go_cut [3, 4] (fun s3 s4 wx => s3 = .int .i64 at_ ∧ s4 = .int .i64 er ∧ Hid (Has wx w.heap.size #[.string ⟨#[]⟩, .slice none 0 0, .slice none 0 0]) ∧ Hid (Below w.heap.size w wx))
    case first =>
      have hs0 := Hk.out (World.drew w2) (HR5.out.drew)
      obtain ⟨z1, z2, z3, z4, z5, z6, z7⟩ := has3 HZ.out
      go_region_held3 (fun w' => w'.cell? ⟨r, 2, none⟩ = some (.int .i64 at_) ∧ w'.cell? ⟨r, 3, none⟩ = some (.int .i64 er) ∧ Hid (Has w' r #[.slice none 0 0, .int .i64 0, .int .i64 at_, .int .i64 er]))
        (first | (with_reducible assumption) | (with_reducible exact ⟨‹_›, ‹_›, ‹_›⟩) | (with_reducible refine Hk.out _ ?_; repeat (first | (with_reducible exact Hid.out (by assumption)) | (with_reducible refine Has.drew ?_) | (refine Has.far ?_ (by show r ≠ w.heap.size; omega) _))))
        (fail)
      all_goals
        go_wp2_with fail
        go_meet
        exact ⟨rfl, rfl, Lib.hid ((((HZ.out.set 0 (.string ⟨#[]⟩)).set 1 (.slice none 0 0)).set 2 (.slice none 0 0)).drew), Lib.hid (((B2.out.setCell (by show w.heap.size ≤ w.heap.size; omega) _).setCell (by show w.heap.size ≤ w.heap.size; omega) _).setCell (by show w.heap.size ≤ w.heap.size; omega) _).drew⟩
    case rest =>
      obtain ⟨rfl, rfl, V, BD⟩ := hcut
      obtain ⟨p1, p2, p3, p4, p5, p6, p7⟩ := has3 V.out
      go_wp2_with fail
      refine bodyPost_ret (v := .tuple #[.agg #[.string ⟨#[]⟩, .slice none 0 0, .slice none 0 0], .int .i64 at_, .int .i64 er]) (by simp [results, Tryd.results16, go_sem, p1, p2, p3]) rfl (Or.inr ⟨at_, er, HO.out, rfl, BD.out⟩)
  case pos =>
  have BO := Lib.hid (begin_ok s W1 hs h0)
  have HO : Hid (wholeF ruleF s.data.toList = (ruleF ((lexR s.data.toList).1.map gt)).then fun x r => if (hd r).1 = 0 then .good x [] else .bad (hd r).2.2 1) := Lib.hid (by unfold wholeF; rw [if_pos h0])
  clear h0
  generalize wholeF ruleF s.data.toList = O at *
  generalize (lexR s.data.toList).1.map gt = T at *
  unfold WrR
  go_enter Tryd.func16, Tryd.ntmps16
  go_upto_region 1 with fail
  rw [← hW1]
  clear hW1
  go_wp2_with fail
  refine BO.out.mono ?_
  rintro e w2 ⟨r, rfl, hr, hR, hB⟩
  have B2 := Lib.hid (next0 GG.out hB)
  have hrT : w.heap.size < r := by have := HS1.out; omega
  have hneZ : w.heap.size ≠ r := by omega
  have Z2 := Lib.hid (H1.out.step0 hB)
  have R2 := Lib.hid hR
  have hz2 := Lib.hid hB.size
  obtain ⟨g, o, c, n, i, i1, i2, i3, i4, i5, x1, x2, x3, x4, f1, f2, f3, _⟩ := hR.open
  have TT := Lib.hid (rule_any r w2 T hR)
  generalize ruleF T = OT at *
  unfold RlO at TT
  clear hR hB BO
  go_wp2_with fail
  refine TT.out.mono ?_
  rintro e w3 (⟨t, ts3, p, c3, q, d3, hO, rfl, hS, hR, hC⟩ | ⟨a, er, nm, p, m, c3, q, n3, d3, ts3, hO, rfl, hR, her, hC⟩)
  · have HO : Hid (O = if (hd ts3).1 = 0 then .good t [] else .bad (hd ts3).2.2 1) := Lib.hid (by rw [HO.out, hO]; rfl)
    have B3 := Lib.hid (B2.out.trans (hC.toBelow (B := w.heap.size) (by omega) B2.out.size))
    have Z3 := Lib.hid (hC.has Z2.out hneZ)
    have R3 := Lib.hid hR
    have S3 := Lib.hid hS
    have hz3 := Lib.hid hC.size
    have HN3 := Lib.hid (And.intro B2.out.size hrT)
    clear hO hS hR hC TT x1 x2 x3 x4 f1 f2 f3 i1 i2 i3 i4 i5
    obtain ⟨W4, hW4⟩ : ∃ W4, W4 = w3.alloc (.cells #[.string t.1.nm, .slice p t.1.args.length c3, .slice q t.2.length d3] 34) := ⟨_, rfl⟩
    have G4 : Below w3.heap.size w3 W4 := by rw [hW4]; exact below_alloc w3 _
    have T4 := Lib.hid (show Has W4 w3.heap.size #[.string t.1.nm, .slice p t.1.args.length c3, .slice q t.2.length d3] by rw [hW4]; exact Has.new _ _ _)
    have R4 := Lib.hid (R3.out.below G4)
    have Z4 := Lib.hid (Z3.out.step0 G4)
    have B4 := Lib.hid (next0 B3.out G4)
    have S4 := Lib.hid (KR.keep (w' := W4) S3.out fun b o hk => G4.cell (p := ⟨b, o, none⟩) hk.2)
    have hlt3 : w.heap.size < w3.heap.size := Z3.out.lt
    clear G4 R3 Z3 B3 S3
    go_upto_region 5 with fail
    rw [← hW4]
    clear hW4
    by_cases hk : (hd ts3).1 = 0
    · have HG : Hid (O = .good t []) := Lib.hid (by rw [HO.out, if_pos hk])
      have EN := Lib.hid (end_no W4 r ts3 R4.out hk)
      clear hk HO
      go_wp2_with fail
      refine EN.out.mono ?_
      rintro e w5 ⟨rfl, k⟩
      have B5 := Lib.hid (next0 B4.out k)
      have S5 := Lib.hid (KR.keep (w' := w5) S4.out fun b o hk => k.cell (p := ⟨b, o, none⟩) (Nat.lt_of_lt_of_le hk.2 (by have := T4.out.lt; omega)))
      have T5 := Lib.hid (T4.out.step0 k)
      have Z5 := Lib.hid (Z4.out.step0 k)
      obtain ⟨g, o, c, n, i, i1, i2, i3, i4, i5, x1, x2, x3, x4, f1, f2, f3, _⟩ := (R4.out.below k).open
      obtain ⟨q1, q2, q3, q4, q5, q6, q7⟩ := has3 T5.out
      obtain ⟨z1, z2, z3, z4, z5, z6, z7⟩ := has3 Z5.out
      have hk5 := k.size
      have hT4 := T4.out.lt
      clear k EN R4 S4 T4 Z4 B4
      go_wp2_with fail
      have V := ((Z5.out.set 0 (.string t.1.nm)).set 1 (.slice p t.1.args.length c3)).set 2 (.slice q t.2.length d3)
      obtain ⟨p1, p2, p3, p4, p5, p6, p7⟩ := has3 (a := .string t.1.nm) (b := .slice p t.1.args.length c3) (c := .slice q t.2.length d3) V
      refine bodyPost_ret (v := .tuple #[.agg #[.string t.1.nm, .slice p t.1.args.length c3, .slice q t.2.length d3], .int .i64 0, .int .i64 0]) (by simp [results, Tryd.results16, go_sem, p1, p2, p3]) rfl (Or.inl ⟨t, p, c3, q, d3, HG.out, rfl, ?_, ?_⟩)
      · refine KR.wide (KR.keep S5.out (fun b o hk => ?_)) (fun b hb => ?_)
        · have h1 : w2.heap.size ≤ b := hk.1
          have h2 := HN3.out
          have h3 := HS1.out
          have h4 := hz2.out
          exact (cell_set (by show b ≠ w.heap.size; omega) _).trans ((cell_set (by show b ≠ w.heap.size; omega) _).trans (cell_set (by show b ≠ w.heap.size; omega) _))
        · have h1 : w2.heap.size ≤ b := hb.1
          have h5 : b < w3.heap.size := hb.2
          have h2 := HN3.out
          exact ⟨by omega, by rw [set_size, set_size, set_size]; omega⟩
      · exact ((B5.out.setCell (by show w.heap.size ≤ w.heap.size; omega) _).setCell (by show w.heap.size ≤ w.heap.size; omega) _).setCell (by show w.heap.size ≤ w.heap.size; omega) _
    · have EN := Lib.hid (end_yes W4 r ts3 R4.out hk)
      have HO : Hid (O = .bad (hd ts3).2.2 1) := Lib.hid (by rw [HO.out, if_neg hk])
      clear hk
      go_wp2_with fail
      refine EN.out.mono ?_
      rintro e w5 ⟨rfl, k1, k2⟩
      have HZ := Lib.hid (k2.has Z4.out hneZ)
      have B5 := Lib.hid (B4.out.trans (k2.toBelow (B := w.heap.size) (by omega) B4.out.size))
      obtain ⟨_, _, g, o, c, n, i, _, _, _, _, hH, _⟩ := k1
      obtain ⟨x1, x2, x3, x4, f1, f2, f3, hrl⟩ := has4 hH
      have HR5 := Lib.hid hH
      generalize (hd ts3).2.2 = at_ at *
      clear hH k2 EN
      go_upto_region 7 with fail
      have Hk : Hid (∀ w', Has w' r #[.slice (some ⟨g, o, none⟩) n c, .int .i64 (i : Nat), .int .i64 at_, .int .i64 1] → w'.cell? ⟨r, 2, none⟩ = some (.int .i64 at_) ∧ w'.cell? ⟨r, 3, none⟩ = some (.int .i64 1) ∧ Hid (Has w' r #[.slice (some ⟨g, o, none⟩) n c, .int .i64 (i : Nat), .int .i64 at_, .int .i64 1])) := Lib.hid (fun w' h => ⟨h.cell 2, h.cell 3, Lib.hid h⟩)
      go_cut [3, 4] (fun s3 s4 wx => s3 = .int .i64 at_ ∧ s4 = .int .i64 1 ∧ Hid (Has wx w.heap.size #[.string ⟨#[]⟩, .slice none 0 0, .slice none 0 0]) ∧ Hid (Below w.heap.size w wx))
      case first =>
        have hs0 := Hk.out (World.drew w5) (HR5.out.drew)
        obtain ⟨z1, z2, z3, z4, z5, z6, z7⟩ := has3 HZ.out
        go_region_held3 (fun w' => w'.cell? ⟨r, 2, none⟩ = some (.int .i64 at_) ∧ w'.cell? ⟨r, 3, none⟩ = some (.int .i64 1) ∧ Hid (Has w' r #[.slice (some ⟨g, o, none⟩) n c, .int .i64 (i : Nat), .int .i64 at_, .int .i64 1]))
          (first | (with_reducible assumption) | (with_reducible exact ⟨‹_›, ‹_›, ‹_›⟩) | (with_reducible refine Hk.out _ ?_; repeat (first | (with_reducible exact Hid.out (by assumption)) | (with_reducible refine Has.drew ?_) | (refine Has.far ?_ (by show r ≠ w.heap.size; omega) _))))
          (fail)
        all_goals
          go_wp2_with fail
          go_meet
          exact ⟨rfl, rfl, Lib.hid ((((HZ.out.set 0 (.string ⟨#[]⟩)).set 1 (.slice none 0 0)).set 2 (.slice none 0 0)).drew), Lib.hid (((B5.out.setCell (by show w.heap.size ≤ w.heap.size; omega) _).setCell (by show w.heap.size ≤ w.heap.size; omega) _).setCell (by show w.heap.size ≤ w.heap.size; omega) _).drew⟩
      case rest =>
        obtain ⟨rfl, rfl, V, BD⟩ := hcut
        obtain ⟨p1, p2, p3, p4, p5, p6, p7⟩ := has3 V.out
        go_wp2_with fail
        refine bodyPost_ret (v := .tuple #[.agg #[.string ⟨#[]⟩, .slice none 0 0, .slice none 0 0], .int .i64 at_, .int .i64 1]) (by simp [results, Tryd.results16, go_sem, p1, p2, p3]) rfl (Or.inr ⟨at_, 1, HO.out, rfl, BD.out⟩)
  · have HO : Hid (O = .bad a er) := Lib.hid (by rw [HO.out, hO]; rfl)
    have hE : (er != 0) = true := by rw [bne_iff_ne]; exact her
    have B3 := Lib.hid (B2.out.trans (hC.toBelow (B := w.heap.size) (by omega) B2.out.size))
    have Z3 := Lib.hid (hC.has Z2.out hneZ)
    have R3 := Lib.hid hR
    have E3 := Lib.hid her
    clear hO hR hC her TT x1 x2 x3 x4 f1 f2 f3 i1 i2 i3 i4 i5
    obtain ⟨W4, hW4⟩ : ∃ W4, W4 = w3.alloc (.cells #[.string nm, .slice p m c3, .slice q n3 d3] 34) := ⟨_, rfl⟩
    have G4 : Below w3.heap.size w3 W4 := by rw [hW4]; exact below_alloc w3 _
    have R4 := Lib.hid (R3.out.below G4)
    have Z4 := Lib.hid (Z3.out.step0 G4)
    have B4 := Lib.hid (next0 B3.out G4)
    have EN : Hid (Calls Tryd.prog 34 #[.pointer (some ⟨r, 0, none⟩)] W4 fun e w' => e = .returned (.tuple #[]) ∧ Below W4.heap.size W4 w') := Lib.hid (by obtain ⟨_, _, _, _, _, _, _, _, _, _, _, _, _, x4, _⟩ := R4.out.open; exact end_err W4 r er x4 E3.out)
    clear G4 R3 Z3 B3
    go_upto_region 5 with fail
    rw [← hW4]
    clear hW4
    go_wp2_with fail
    refine EN.out.mono ?_
    rintro e w5 ⟨rfl, k⟩
    have HZ := Lib.hid (Z4.out.step0 k)
    have B5 := Lib.hid (next0 B4.out k)
    obtain ⟨_, _, g, o, c, n, i, _, _, _, _, hH, _⟩ := R4.out.below k
    obtain ⟨x1, x2, x3, x4, f1, f2, f3, hrl⟩ := has4 hH
    have HR5 := Lib.hid hH
    clear hH k EN R4 Z4 B4
    go_upto_region 7 with fail
    have Hk : Hid (∀ w', Has w' r #[.slice (some ⟨g, o, none⟩) n c, .int .i64 (i : Nat), .int .i64 a, .int .i64 er] → w'.cell? ⟨r, 2, none⟩ = some (.int .i64 a) ∧ w'.cell? ⟨r, 3, none⟩ = some (.int .i64 er) ∧ Hid (Has w' r #[.slice (some ⟨g, o, none⟩) n c, .int .i64 (i : Nat), .int .i64 a, .int .i64 er])) := Lib.hid (fun w' h => ⟨h.cell 2, h.cell 3, Lib.hid h⟩)
    go_cut [3, 4] (fun s3 s4 wx => s3 = .int .i64 a ∧ s4 = .int .i64 er ∧ Hid (Has wx w.heap.size #[.string ⟨#[]⟩, .slice none 0 0, .slice none 0 0]) ∧ Hid (Below w.heap.size w wx))
    case first =>
      have hs0 := Hk.out (World.drew w5) (HR5.out.drew)
      obtain ⟨z1, z2, z3, z4, z5, z6, z7⟩ := has3 HZ.out
      go_region_held3 (fun w' => w'.cell? ⟨r, 2, none⟩ = some (.int .i64 a) ∧ w'.cell? ⟨r, 3, none⟩ = some (.int .i64 er) ∧ Hid (Has w' r #[.slice (some ⟨g, o, none⟩) n c, .int .i64 (i : Nat), .int .i64 a, .int .i64 er]))
        (first | (with_reducible assumption) | (with_reducible exact ⟨‹_›, ‹_›, ‹_›⟩) | (with_reducible refine Hk.out _ ?_; repeat (first | (with_reducible exact Hid.out (by assumption)) | (with_reducible refine Has.drew ?_) | (refine Has.far ?_ (by show r ≠ w.heap.size; omega) _))))
        (fail)
      all_goals
        go_wp2_with fail
        go_meet
        exact ⟨rfl, rfl, Lib.hid ((((HZ.out.set 0 (.string ⟨#[]⟩)).set 1 (.slice none 0 0)).set 2 (.slice none 0 0)).drew), Lib.hid (((B5.out.setCell (by show w.heap.size ≤ w.heap.size; omega) _).setCell (by show w.heap.size ≤ w.heap.size; omega) _).setCell (by show w.heap.size ≤ w.heap.size; omega) _).drew⟩
    case rest =>
      obtain ⟨rfl, rfl, V, BD⟩ := hcut
      obtain ⟨p1, p2, p3, p4, p5, p6, p7⟩ := has3 V.out
      go_wp2_with fail
      refine bodyPost_ret (v := .tuple #[.agg #[.string ⟨#[]⟩, .slice none 0 0, .slice none 0 0], .int .i64 a, .int .i64 er]) (by simp [results, Tryd.results16, go_sem, p1, p2, p3]) rfl (Or.inr ⟨a, er, HO.out, rfl, BD.out⟩)
end RefK
namespace ParL7
open Kit LexM TermM TermI TermU LexE LexF LexG LexP ParM ParA ParB ParC ParD ParK ParE ParF ParG ParH ParI ParW ParV ParX ParX2 ParX3 ParY ParN ParP ParQ ParAx RefK
def oX {α : Type} (d : α) : Out α → α
  | .good x _ => x
  | .bad _ _ => d
def oA {α : Type} : Out α → Int
  | .good _ _ => 0
  | .bad a _ => a
def oE {α : Type} : Out α → Int
  | .good _ _ => 0
  | .bad _ e => e
def r0 : Rl := (.mk ⟨#[]⟩ [], [])
theorem wr_uni {w w' : World} {o : Out Rl} {e : Ending} (h : WrR w o e w') : ∃ p c q d, e = .returned (.tuple #[.agg #[.string (oX r0 o).1.nm, .slice p (oX r0 o).1.args.length c, .slice q (oX r0 o).2.length d], .int .i64 (oA o), .int .i64 (oE o)]) ∧
    SlIn (· < w'.heap.size) w' (oX r0 o).1.args (.slice p (oX r0 o).1.args.length c) ∧ LIn (· < w'.heap.size) w' (oX r0 o).2 (.slice q (oX r0 o).2.length d) ∧ Below w.heap.size w w' := by
  rcases h with ⟨x, p, c, q, d, rfl, h2, h3, h4⟩ | ⟨a, er, rfl, h2, h3⟩
  · exact ⟨p, c, q, d, h2, h3.1.weaken fun b hb => hb.2, h3.2.2.wide fun b hb => hb.2, h4⟩
  · exact ⟨none, 0, none, 0, h2, SlIn.none _ _, LIn.nil _ _, h3⟩
theorem up {w w' : World} {l : List Tm} {v : Value} (h : SlIn (· < w.heap.size) w l v) (k : Below w.heap.size w w') : SlIn (· < w'.heap.size) w' l v :=
  (h.deep k (Nat.le_refl _)).weaken fun _ hb => Nat.lt_of_lt_of_le hb k.size
theorem upL {w w' : World} {l : List Lt} {v : Value} (h : LIn (· < w.heap.size) w l v) (k : Below w.heap.size w w') : LIn (· < w'.heap.size) w' l v :=
  (h.keep fun b o hb => k.cell (p := ⟨b, o, none⟩) hb).wide fun _ hb => Nat.lt_of_lt_of_le hb k.size
set_option maxRecDepth 100000 in
set_option maxHeartbeats 3200000 in
theorem rules (s : ByteArray) (w : World) (hw : Wd w) : Calls Tryd.prog 4 #[.string s] w fun e w' => e = .returned (.bool true) ∧ Below w.heap.size w w' := by
  have HA := Lib.hid awake_any
  rcases Nat.lt_or_ge 2000 s.size with hs | hs
  · have hs1 : (2000 : Int) < (s.size : Int) := by omega
    go_enter Tryd.func4, Tryd.ntmps4
    go_wp2_with fail
    refine (HA.out w hw).mono ?_
    rintro e w8 ⟨rfl, g8⟩
    have B8 := Lib.hid g8
    clear g8
    go_wp2_with fail
    go_ret
    exact ⟨rfl, B8.out⟩
  have K1 := Lib.hid ((crule_any s w hw (by omega)).mono fun e w' h => wr_uni h)
  have K2 := Lib.hid (fun w1 => (rrule_any s w1 (by omega)).mono fun e w' h => wr_uni h)
  generalize wholeF ruleF s.data.toList = O at *
  have TE := Lib.hid (fun B w sv sv' v v' hB h1 h2 h3 h4 => rule_eq (oX r0 O).1 (oX r0 O).1 (oX r0 O).2 (oX r0 O).2 true (by simp) B w sv sv' v v' hB h1 h2 h3 h4)
  generalize oX r0 O = t at *
  generalize oA O = a1 at *
  generalize oE O = e1 at *
  go_enter Tryd.func4, Tryd.ntmps4
  go_wp2_with fail
  refine K1.out.mono ?_
  rintro e w1 ⟨p1, c1, q1, d1, rfl, hS1, hL1, hB1⟩
  obtain ⟨W1, hW1⟩ : ∃ W1, W1 = w1.alloc (.cells #[.string t.1.nm, .slice p1 t.1.args.length c1, .slice q1 t.2.length d1] 34) := ⟨_, rfl⟩
  have G1 : Below w1.heap.size w1 W1 := by rw [hW1]; exact below_alloc w1 _
  have T1 := Lib.hid (show Has W1 w1.heap.size #[.string t.1.nm, .slice p1 t.1.args.length c1, .slice q1 t.2.length d1] by rw [hW1]; exact Has.new _ _ _)
  have B1 := Lib.hid (next0 hB1 G1)
  have S1 := Lib.hid (And.intro (up hS1 G1) (upL hL1 G1))
  clear hB1 hS1 hL1 G1 K1
  go_upto_region 4 with fail
  rw [← hW1]
  clear hW1
  go_wp2_with fail
  refine (K2.out W1).mono ?_
  rintro e w2 ⟨p2, c2, q2, d2, rfl, hS2, hL2, hB2⟩
  obtain ⟨W2, hW2⟩ : ∃ W2, W2 = w2.alloc (.cells #[.string t.1.nm, .slice p2 t.1.args.length c2, .slice q2 t.2.length d2] 34) := ⟨_, rfl⟩
  have G2 : Below w2.heap.size w2 W2 := by rw [hW2]; exact below_alloc w2 _
  have GB := next0 hB2 G2
  obtain ⟨y1, y2, y3, _, _, _, _⟩ := has3 (show Has W2 w2.heap.size #[.string t.1.nm, .slice p2 t.1.args.length c2, .slice q2 t.2.length d2] by rw [hW2]; exact Has.new _ _ _)
  obtain ⟨x1, x2, x3, _, _, _, _⟩ := has3 (T1.out.step0 GB)
  have B2 := Lib.hid (next0 B1.out GB)
  have TT := Lib.hid (TE.out W2.heap.size W2 _ _ _ _ (Nat.le_refl _) (up S1.out.1 GB) (up hS2 G2) (upL S1.out.2 GB) (upL hL2 G2))
  clear hB2 hS2 hL2 G2 K2 GB TE S1 T1
  generalize t.1.nm = tn at *
  generalize t.1.args.length = ta at *
  generalize t.2.length = tb at *
  go_upto_region 5 with fail
  rw [← hW2]
  clear hW2
  go_wp2_with fail
  refine TT.out.mono ?_
  rintro e w5 ⟨rfl, g5⟩
  have B5 := Lib.hid (next0 B2.out g5.1)
  clear g5 TT x1 x2 x3 y1 y2 y3
  go_wp2_with fail
  refine (HA.out w5 (hw.below B5.out hw.1)).mono ?_
  rintro e w8 ⟨rfl, g8⟩
  have B8 := Lib.hid (next0 B5.out g8)
  clear g8
  go_wp2_with fail
  go_ret
  exact ⟨rfl, B8.out⟩
end ParL7
end Go.Proofs.YtdalepdpobcpaaaDoor
