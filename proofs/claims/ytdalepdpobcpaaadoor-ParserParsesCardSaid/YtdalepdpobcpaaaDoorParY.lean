/- Parse, Rule, Term and Terms of the code. Condition: the reserved words lie as laid. -/
import Derived.Test.YtdalepdpobcpaaaDoorParX3
namespace Go.Proofs.YtdalepdpobcpaaaDoor
open Go Go.RowKit
namespace ParY
open Kit LexM TermM TermI TermU LexE LexF LexG LexP ParM ParA ParB ParC ParD ParK ParE ParF ParG ParH ParI ParW ParV ParX ParX2 ParX3
set_option maxRecDepth 100000 in
set_option maxHeartbeats 1600000 in
theorem parse_any (s : ByteArray) (w : World) (hw : Wd w) (hs : s.size ≤ 140737488355328) :
    Calls Tryd.prog 12 #[.string s] w (WdsR w (wholeF (descF 129 []) s.data.toList)) := by
  have H := Lib.hid (whole_ds s w hw hs)
  generalize wholeF (descF 129 []) s.data.toList = O at *
  unfold WdsR at H ⊢
  go_enter Tryd.func12, Tryd.ntmps12
  go_wp2_with fail
  refine H.out.mono ?_
  rintro e w4 (⟨l, p, c, hO, rfl, hS, hB⟩ | ⟨a, er, hO, rfl, hB⟩)
  · have HO := Lib.hid hO
    have S := Lib.hid hS
    have B := Lib.hid hB
    clear hO hS hB H
    go_wp2_with fail
    refine bodyPost_ret (v := .tuple #[.slice p l.length c, .int .i64 0, .int .i64 0]) (by simp [results, Tryd.results12, go_sem]) rfl (Or.inl ⟨l, p, c, HO.out, rfl, S.out, B.out⟩)
  · have HO := Lib.hid hO
    have B := Lib.hid hB
    clear hO hB H
    go_wp2_with fail
    refine bodyPost_ret (v := .tuple #[.slice none 0 0, .int .i64 a, .int .i64 er]) (by simp [results, Tryd.results12, go_sem]) rfl (Or.inr ⟨a, er, HO.out, rfl, B.out⟩)
set_option maxRecDepth 100000 in
set_option maxHeartbeats 1600000 in
theorem cterms_any (s : ByteArray) (w : World) (hw : Wd w) (hs : s.size ≤ 140737488355328) :
    Calls Tryd.prog 20 #[.string s] w (WtsR w (wholeF termsF s.data.toList)) := by
  have H := Lib.hid (whole_ts s w hw hs)
  generalize wholeF termsF s.data.toList = O at *
  unfold WtsR at H ⊢
  go_enter Tryd.func20, Tryd.ntmps20
  go_wp2_with fail
  refine H.out.mono ?_
  rintro e w4 (⟨l, p, c, hO, rfl, hS, hB⟩ | ⟨a, er, hO, rfl, hB⟩)
  · have HO := Lib.hid hO
    have S := Lib.hid hS
    have B := Lib.hid hB
    clear hO hS hB H
    go_wp2_with fail
    refine bodyPost_ret (v := .tuple #[.slice p l.length c, .int .i64 0, .int .i64 0]) (by simp [results, Tryd.results20, go_sem]) rfl (Or.inl ⟨l, p, c, HO.out, rfl, S.out, B.out⟩)
  · have HO := Lib.hid hO
    have B := Lib.hid hB
    clear hO hB H
    go_wp2_with fail
    refine bodyPost_ret (v := .tuple #[.slice none 0 0, .int .i64 a, .int .i64 er]) (by simp [results, Tryd.results20, go_sem]) rfl (Or.inr ⟨a, er, HO.out, rfl, B.out⟩)
set_option maxRecDepth 100000 in
set_option maxHeartbeats 1600000 in
theorem cterm_any (s : ByteArray) (w : World) (hw : Wd w) (hs : s.size ≤ 140737488355328) :
    Calls Tryd.prog 18 #[.string s] w (WtR w (wholeF (termF 4) s.data.toList)) := by
  obtain ⟨W1, hW1⟩ : ∃ W1, W1 = w.alloc (.cells #[.string ⟨#[]⟩, .slice none 0 0] 31) := ⟨_, rfl⟩
  have G1 : Below w.heap.size w W1 := by rw [hW1]; exact below_alloc w _
  have H1 : Hid (Has W1 w.heap.size #[.string ⟨#[]⟩, .slice none 0 0]) := Lib.hid (by rw [hW1]; exact Has.new _ _ _)
  have hz : W1.heap.size = w.heap.size + 1 := by rw [hW1]; simp
  have H := Lib.hid (whole_tm s W1 (hw.below G1 hw.1) hs)
  have GG := Lib.hid G1
  clear G1
  generalize wholeF (termF 4) s.data.toList = O at *
  unfold WtR at H ⊢
  go_enter Tryd.func18, Tryd.ntmps18
  go_upto_region 1 with fail
  rw [← hW1]
  clear hW1
  go_wp2_with fail
  refine H.out.mono ?_
  rintro e w4 (⟨t, p, c, hO, rfl, hS, hn, hB⟩ | ⟨a, er, hO, rfl, hB⟩)
  · have HO := Lib.hid hO
    have S := Lib.hid hS
    have N := Lib.hid hn
    have B := Lib.hid (next0 GG.out hB)
    obtain ⟨x1, x2, x3, x4, x5⟩ := (H1.out.step0 hB).two
    have HH := Lib.hid (H1.out.step0 hB)
    clear hO hS hn hB H H1
    go_wp2_with fail
    have V := (HH.out.set 0 (.string t.nm)).set 1 (.slice p t.args.length c)
    obtain ⟨p1, p2, p3, p4, p5⟩ := Has.two (a := .string t.nm) (b := .slice p t.args.length c) V
    refine bodyPost_ret (v := .tuple #[.agg #[.string t.nm, .slice p t.args.length c], .int .i64 0, .int .i64 0]) (by simp [results, Tryd.results18, go_sem, p1, p2]) rfl (Or.inl ⟨t, p, c, HO.out, rfl, ?_, N.out, ?_⟩)
    · refine (S.out.frame (fun b o hk => ?_)).weaken (fun b hb => ⟨by have := hb.1; omega, by rw [set_size, set_size]; exact hb.2⟩)
      have := hk.1
      exact (cell_set (by show b ≠ w.heap.size; omega) _).trans (cell_set (by show b ≠ w.heap.size; omega) _)
    · exact (B.out.setCell (by show w.heap.size ≤ w.heap.size; omega) _).setCell (by show w.heap.size ≤ w.heap.size; omega) _
  · have HO := Lib.hid hO
    have B := Lib.hid (next0 GG.out hB)
    obtain ⟨x1, x2, x3, x4, x5⟩ := (H1.out.step0 hB).two
    have HH := Lib.hid (H1.out.step0 hB)
    clear hO hB H H1
    go_wp2_with fail
    have V := (HH.out.set 0 (.string ⟨#[]⟩)).set 1 (.slice none 0 0)
    obtain ⟨p1, p2, p3, p4, p5⟩ := Has.two (a := .string ⟨#[]⟩) (b := .slice none 0 0) V
    refine bodyPost_ret (v := .tuple #[.agg #[.string ⟨#[]⟩, .slice none 0 0], .int .i64 a, .int .i64 er]) (by simp [results, Tryd.results18, go_sem, p1, p2]) rfl (Or.inr ⟨a, er, HO.out, rfl, ?_⟩)
    exact (B.out.setCell (by show w.heap.size ≤ w.heap.size; omega) _).setCell (by show w.heap.size ≤ w.heap.size; omega) _
set_option maxRecDepth 100000 in
set_option maxHeartbeats 1600000 in
theorem crule_any (s : ByteArray) (w : World) (hw : Wd w) (hs : s.size ≤ 140737488355328) :
    Calls Tryd.prog 15 #[.string s] w (WrR w (wholeF ruleF s.data.toList)) := by
  obtain ⟨W1, hW1⟩ : ∃ W1, W1 = w.alloc (.cells #[.string ⟨#[]⟩, .slice none 0 0, .slice none 0 0] 34) := ⟨_, rfl⟩
  have G1 : Below w.heap.size w W1 := by rw [hW1]; exact below_alloc w _
  have H1 : Hid (Has W1 w.heap.size #[.string ⟨#[]⟩, .slice none 0 0, .slice none 0 0]) := Lib.hid (by rw [hW1]; exact Has.new _ _ _)
  have hz : W1.heap.size = w.heap.size + 1 := by rw [hW1]; simp
  have H := Lib.hid (whole_rl s W1 (hw.below G1 hw.1) hs)
  have GG := Lib.hid G1
  clear G1
  generalize wholeF ruleF s.data.toList = O at *
  unfold WrR at H ⊢
  go_enter Tryd.func15, Tryd.ntmps15
  go_upto_region 1 with fail
  rw [← hW1]
  clear hW1
  go_wp2_with fail
  refine H.out.mono ?_
  rintro e w4 (⟨t, p, c, q, d, hO, rfl, hS, hB⟩ | ⟨a, er, hO, rfl, hB⟩)
  · have HO := Lib.hid hO
    have S := Lib.hid hS
    have B := Lib.hid (next0 GG.out hB)
    obtain ⟨x1, x2, x3, x4, x5, x6, x7⟩ := has3 (H1.out.step0 hB)
    have HH := Lib.hid (H1.out.step0 hB)
    clear hO hS hB H H1
    go_wp2_with fail
    have V := ((HH.out.set 0 (.string t.1.nm)).set 1 (.slice p t.1.args.length c)).set 2 (.slice q t.2.length d)
    obtain ⟨p1, p2, p3, p4, p5, p6, p7⟩ := has3 (a := .string t.1.nm) (b := .slice p t.1.args.length c) (c := .slice q t.2.length d) V
    refine bodyPost_ret (v := .tuple #[.agg #[.string t.1.nm, .slice p t.1.args.length c, .slice q t.2.length d], .int .i64 0, .int .i64 0]) (by simp [results, Tryd.results15, go_sem, p1, p2, p3]) rfl (Or.inl ⟨t, p, c, q, d, HO.out, rfl, ?_, ?_⟩)
    · refine KR.wide (KR.keep S.out (fun b o hk => ?_)) (fun b hb => ⟨by have := hb.1; omega, by rw [set_size, set_size, set_size]; exact hb.2⟩)
      have := hk.1
      exact (cell_set (by show b ≠ w.heap.size; omega) _).trans ((cell_set (by show b ≠ w.heap.size; omega) _).trans (cell_set (by show b ≠ w.heap.size; omega) _))
    · exact ((B.out.setCell (by show w.heap.size ≤ w.heap.size; omega) _).setCell (by show w.heap.size ≤ w.heap.size; omega) _).setCell (by show w.heap.size ≤ w.heap.size; omega) _
  · have HO := Lib.hid hO
    have B := Lib.hid (next0 GG.out hB)
    obtain ⟨x1, x2, x3, x4, x5, x6, x7⟩ := has3 (H1.out.step0 hB)
    have HH := Lib.hid (H1.out.step0 hB)
    clear hO hB H H1
    go_wp2_with fail
    have V := ((HH.out.set 0 (.string ⟨#[]⟩)).set 1 (.slice none 0 0)).set 2 (.slice none 0 0)
    obtain ⟨p1, p2, p3, p4, p5, p6, p7⟩ := has3 (a := .string ⟨#[]⟩) (b := .slice none 0 0) (c := .slice none 0 0) V
    refine bodyPost_ret (v := .tuple #[.agg #[.string ⟨#[]⟩, .slice none 0 0, .slice none 0 0], .int .i64 a, .int .i64 er]) (by simp [results, Tryd.results15, go_sem, p1, p2, p3]) rfl (Or.inr ⟨a, er, HO.out, rfl, ?_⟩)
    exact ((B.out.setCell (by show w.heap.size ≤ w.heap.size; omega) _).setCell (by show w.heap.size ≤ w.heap.size; omega) _).setCell (by show w.heap.size ≤ w.heap.size; omega) _
end ParY
end Go.Proofs.YtdalepdpobcpaaaDoor
