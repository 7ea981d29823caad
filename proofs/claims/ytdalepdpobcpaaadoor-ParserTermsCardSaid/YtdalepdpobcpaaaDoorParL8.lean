/- The walk of ParserTerms. Condition: the reserved words lie as laid. -/
import Derived.Test.YtdalepdpobcpaaaDoorParAx
import Derived.Test.YtdalepdpobcpaaaDoorRefI
namespace Go.Proofs.YtdalepdpobcpaaaDoor
open Go Go.RowKit
namespace ParL8
open Kit LexM TermM TermI TermU LexE LexF LexG LexP ParM ParA ParB ParC ParD ParK ParE ParF ParG ParH ParI ParW ParV ParX ParX2 ParX3 ParY ParN ParP ParQ ParAx RefH RefI
def oX {α : Type} (d : α) : Out α → α
  | .good x _ => x
  | .bad _ _ => d
def oA {α : Type} : Out α → Int
  | .good _ _ => 0
  | .bad a _ => a
def oE {α : Type} : Out α → Int
  | .good _ _ => 0
  | .bad _ e => e
def t0 : Tm := .mk ⟨#[]⟩ []
theorem wt_uni {w w' : World} {o : Out Tm} {e : Ending} (h : WtR w o e w') : ∃ p c, e = .returned (.tuple #[.agg #[.string (oX t0 o).nm, .slice p (oX t0 o).args.length c], .int .i64 (oA o), .int .i64 (oE o)]) ∧ SlIn (· < w'.heap.size) w' (oX t0 o).args (.slice p (oX t0 o).args.length c) ∧ Below w.heap.size w w' := by
  rcases h with ⟨t, p, c, rfl, h2, h3, h4, h5⟩ | ⟨a, er, rfl, h2, h3⟩
  · exact ⟨p, c, h2, h3.weaken fun b hb => hb.2, h5⟩
  · exact ⟨none, 0, h2, SlIn.none _ _, h3⟩
theorem wts_uni {w w' : World} {o : Out (List Tm)} {e : Ending} (h : WtsR w o e w') : ∃ p c, e = .returned (.tuple #[.slice p (oX [] o).length c, .int .i64 (oA o), .int .i64 (oE o)]) ∧ SlIn (· < w'.heap.size) w' (oX [] o) (.slice p (oX [] o).length c) ∧ Below w.heap.size w w' := by
  rcases h with ⟨t, p, c, rfl, h2, h3, h4⟩ | ⟨a, er, rfl, h2, h3⟩
  · exact ⟨p, c, h2, h3.weaken fun b hb => hb.2, h4⟩
  · exact ⟨none, 0, h2, SlIn.none _ _, h3⟩
theorem up {w w' : World} {l : List Tm} {v : Value} (h : SlIn (· < w.heap.size) w l v) (k : Below w.heap.size w w') : SlIn (· < w'.heap.size) w' l v :=
  (h.deep k (Nat.le_refl _)).weaken fun _ hb => Nat.lt_of_lt_of_le hb k.size
set_option maxRecDepth 100000 in
set_option maxHeartbeats 3200000 in
theorem terms (s : ByteArray) (w : World) (hw : Wd w) : Calls Tryd.prog 5 #[.string s] w fun e w' => e = .returned (.bool true) ∧ Below w.heap.size w w' := by
  have HA := Lib.hid awake_any
  rcases Nat.lt_or_ge 2000 s.size with hs | hs
  · have hs1 : (2000 : Int) < (s.size : Int) := by omega
    go_enter Tryd.func5, Tryd.ntmps5
    go_wp2_with fail
    refine (HA.out w hw).mono ?_
    rintro e w8 ⟨rfl, g8⟩
    have B8 := Lib.hid g8
    clear g8
    go_wp2_with fail
    go_ret
    exact ⟨rfl, B8.out⟩
  have K1 := Lib.hid ((cterm_any s w hw (by omega)).mono fun e w' h => wt_uni h)
  have K2 := Lib.hid (fun w1 => (rterm_any s w1 (by omega)).mono fun e w' h => wt_uni h)
  have K3 := Lib.hid (fun w1 (h : Wd w1) => (cterms_any s w1 h (by omega)).mono fun e w' h => wts_uni h)
  have K4 := Lib.hid (fun w1 => (rterms_any s w1 (by omega)).mono fun e w' h => wts_uni h)
  generalize wholeF (termF 4) s.data.toList = O at *
  generalize wholeF termsF s.data.toList = P at *
  have TE := Lib.hid (fun B w sv sv' hB h1 h2 => TermEq.term_any (oX t0 O) true B w sv (oX t0 O) sv' (by simp) hB h1 h2)
  have TS := Lib.hid (fun B w sv sv' hB h1 h2 => TermEq.terms_of (oX [] P) (oX [] P) (fun x _ => TermEq.term_any x) true (by simp) B w sv sv' hB h1 h2)
  generalize oX t0 O = t at *
  generalize oX [] P = l at *
  generalize oA O = a1 at *
  generalize oE O = e1 at *
  generalize oA P = a2 at *
  generalize oE P = e2 at *
  go_enter Tryd.func5, Tryd.ntmps5
  go_wp2_with fail
  refine K1.out.mono ?_
  rintro e w1 ⟨p1, c1, rfl, hS1, hB1⟩
  obtain ⟨W1, hW1⟩ : ∃ W1, W1 = w1.alloc (.cells #[.string t.nm, .slice p1 t.args.length c1] 31) := ⟨_, rfl⟩
  have G1 : Below w1.heap.size w1 W1 := by rw [hW1]; exact below_alloc w1 _
  have T1 := Lib.hid (show Has W1 w1.heap.size #[.string t.nm, .slice p1 t.args.length c1] by rw [hW1]; exact Has.new _ _ _)
  have B1 := Lib.hid (next0 hB1 G1)
  have S1 := Lib.hid (up hS1 G1)
  clear hB1 hS1 G1 K1
  go_upto_region 4 with fail
  rw [← hW1]
  clear hW1
  go_wp2_with fail
  refine (K2.out W1).mono ?_
  rintro e w2 ⟨p2, c2, rfl, hS2, hB2⟩
  obtain ⟨W2, hW2⟩ : ∃ W2, W2 = w2.alloc (.cells #[.string t.nm, .slice p2 t.args.length c2] 31) := ⟨_, rfl⟩
  have G2 : Below w2.heap.size w2 W2 := by rw [hW2]; exact below_alloc w2 _
  have GB := next0 hB2 G2
  have T2 := Lib.hid (show Has W2 w2.heap.size #[.string t.nm, .slice p2 t.args.length c2] by rw [hW2]; exact Has.new _ _ _)
  have T1 := Lib.hid (T1.out.step0 GB)
  have B2 := Lib.hid (next0 B1.out GB)
  have S1 := Lib.hid (up S1.out GB)
  have S2 := Lib.hid (up hS2 G2)
  clear hB2 hS2 G2 K2 GB
  go_upto_region 5 with fail
  rw [← hW2]
  clear hW2
  go_wp2_with fail
  refine (K3.out W2 (hw.below B2.out hw.1)).mono ?_
  rintro e w3 ⟨p3, c3, rfl, hS3, hB3⟩
  have B3 := Lib.hid (next0 B2.out hB3)
  have T1 := Lib.hid (T1.out.step0 hB3)
  have T2 := Lib.hid (T2.out.step0 hB3)
  have S1 := Lib.hid (up S1.out hB3)
  have S2 := Lib.hid (up S2.out hB3)
  have S3 := Lib.hid hS3
  clear hB3 hS3 K3
  go_wp2_with fail
  refine (K4.out w3).mono ?_
  rintro e w4 ⟨p4, c4, rfl, hS4, hB4⟩
  have B4 := Lib.hid (next0 B3.out hB4)
  obtain ⟨x1, x2, _, _, _⟩ := (T1.out.step0 hB4).two
  obtain ⟨y1, y2, _, _, _⟩ := (T2.out.step0 hB4).two
  have TT := Lib.hid (TE.out w4.heap.size w4 _ _ (Nat.le_refl _) (up S1.out hB4) (up S2.out hB4))
  have S3 := Lib.hid (up S3.out hB4)
  have S4 := Lib.hid hS4
  clear hB4 hS4 K4 T1 T2 S1 S2 TE
  generalize t.nm = tn at *
  generalize t.args.length = ta at *
  generalize l.length = nl at *
  go_wp2_with fail
  refine TT.out.mono ?_
  rintro e w5 ⟨rfl, g5⟩
  have B5 := Lib.hid (next0 B4.out g5.1)
  have LL := Lib.hid (TS.out w5.heap.size w5 _ _ (Nat.le_refl _) (up S3.out g5.1) (up S4.out g5.1))
  clear g5 TT TS S3 S4 x1 x2 y1 y2
  go_wp2_with fail
  refine LL.out.mono ?_
  rintro e w6 ⟨rfl, g6⟩
  have B6 := Lib.hid (next0 B5.out g6.1)
  clear g6 LL
  go_wp2_with fail
  refine (HA.out w6 (hw.below B6.out hw.1)).mono ?_
  rintro e w8 ⟨rfl, g8⟩
  have B8 := Lib.hid (next0 B6.out g8)
  clear g8
  go_wp2_with fail
  go_ret
  exact ⟨rfl, B8.out⟩
end ParL8
end Go.Proofs.YtdalepdpobcpaaaDoor
