/- The examples that every law of layer 4 runs (awake): they hold, where the variable of the reserved words is as laid. -/
import Derived.Test.YtckddlglldfniaaDoorLexH
import Derived.Test.YtckddlglldfniaaDoorLexI
namespace Go.Proofs.YtckddlglldfniaaDoor
open Go Go.RowKit
namespace LexW
open Kit LexM LexE LexF LexG LexH LexI
def gt (t : Tok) : GTok := (t.1, bs t.2.1, (t.2.2 : Int))
theorem flat_get : ∀ (ts : List Tok) (i : Nat) (t : Tok), ts[i]? = some t → (ts.flatMap tcells)[i * 3]? = some (.int .i64 t.1) ∧ (ts.flatMap tcells)[i * 3 + 1]? = some (.string (bs t.2.1)) ∧ (ts.flatMap tcells)[i * 3 + 2]? = some (.int .i64 t.2.2)
  | [], i, t, h => by simp at h
  | a :: ts, 0, t, h => by
    simp at h
    subst h
    exact ⟨rfl, rfl, rfl⟩
  | a :: ts, i + 1, t, h => by
    have ih := flat_get ts i t (by simpa using h)
    have e : (i + 1) * 3 = i * 3 + 3 := by omega
    rw [e]
    exact ih
theorem toks_of {w : World} {B g cap : Nat} {ts : List Tok} (h : w.ownsRow B 30 3 (.slice (some ⟨g, 0, none⟩) ts.length cap) ts.length (ts.flatMap tcells)) (hg : g < w.heap.size) : Toks w g 0 (ts.map gt) := by
  refine ⟨hg, fun i t hi => ?_⟩
  rw [List.getElem?_map] at hi
  obtain ⟨u, hu, rfl⟩ := Option.map_eq_some_iff.1 hi
  have hlt : i < ts.length := (List.getElem?_eq_some_iff.1 hu).1
  obtain ⟨f1, f2, f3⟩ := flat_get ts i u hu
  rw [Nat.zero_add]
  exact ⟨(h.cellAt _ (by omega)).trans f1, (h.cellAt _ (by omega)).trans f2, (h.cellAt _ (by omega)).trans f3⟩
theorem ex1 : lexR [112, 40, 88, 44, 49, 41, 46, 32, 35, 32, 99] = ([(1, [112], 0), (4, [40], 1), (3, [88], 2), (4, [44], 3), (2, [49], 4), (4, [41], 5), (4, [46], 6), (0, [], 11)], 0, 0) := by decide +kernel
theorem ex2 : lexR [97, 32, 48, 48, 55, 32, 59] = ([], 2, 4) := by decide +kernel
theorem ex3 : posF ⟨#[97, 98, 10, 99]⟩ 3 = (2, 1) := by decide +kernel
theorem ex4 : joinT ([((1 : Int), [112], 0), (4, [40], 1), (3, [88], 2), (4, [44], 3), (2, [49], 4), (4, [41], 5), (4, [46], 6), (0, [], 11)].map gt) = [112, 32, 40, 32, 88, 32, 44, 32, 49, 32, 41, 32, 46] := by decide +kernel
theorem ex5 : resB [97, 110, 100] = true := by decide
theorem ex6 : resB [111, 114] = false := by decide
def First (w : World) (e : Ending) (w' : World) : Prop := ∃ g cap : Nat, e = .returned (.tuple #[.slice (some ⟨g, 0, none⟩) 8 cap, .int .i64 0, .int .i64 0]) ∧ Toks w' g 0 ([((1 : Int), [112], 0), (4, [40], 1), (3, [88], 2), (4, [44], 3), (2, [49], 4), (4, [41], 5), (4, [46], 6), (0, [], 11)].map gt) ∧ w.heap.size ≤ g ∧ Below w.heap.size w w'
theorem call1 (w : World) (hw : Wd w) : Calls Tryd.prog 12 #[.string ⟨#[112, 40, 88, 44, 49, 41, 46, 32, 35, 32, 99]⟩] w (First w) := by
  refine (lex_any ⟨#[112, 40, 88, 44, 49, 41, 46, 32, 35, 32, 99]⟩ w hw (by decide)).mono fun e w' h => ?_
  have e1 : (⟨#[112, 40, 88, 44, 49, 41, 46, 32, 35, 32, 99]⟩ : ByteArray).data.toList = [112, 40, 88, 44, 49, 41, 46, 32, 35, 32, 99] := rfl
  rw [e1, ex1] at h
  rcases h with ⟨h, _⟩ | ⟨_, g, cap, he, ho, hg, hl, hb⟩
  · exact absurd rfl h
  · exact ⟨g, cap, he, toks_of ho hl, hg, hb⟩
theorem call2 (w : World) (hw : Wd w) : Calls Tryd.prog 12 #[.string ⟨#[97, 32, 48, 48, 55, 32, 59]⟩] w fun e w' => e = .returned (.tuple #[.slice none 0 0, .int .i64 2, .int .i64 4]) ∧ Below w.heap.size w w' := by
  refine (lex_any ⟨#[97, 32, 48, 48, 55, 32, 59]⟩ w hw (by decide)).mono fun e w' h => ?_
  have e1 : (⟨#[97, 32, 48, 48, 55, 32, 59]⟩ : ByteArray).data.toList = [97, 32, 48, 48, 55, 32, 59] := rfl
  rw [e1, ex2] at h
  rcases h with ⟨_, he, hb⟩ | ⟨h, _⟩
  · exact ⟨he, hb⟩
  · exact absurd h (by decide)
theorem call3 (w : World) : Calls Tryd.prog 18 #[.string ⟨#[97, 98, 10, 99]⟩, .int .i64 3] w fun e w' => e = .returned (.tuple #[.int .i64 2, .int .i64 1]) ∧ w = w' := by
  have h := pos_in ⟨#[97, 98, 10, 99]⟩ 3 w (by decide) (by decide)
  rwa [ex3] at h
theorem call5 (w : World) (hw : Wd w) : Calls Tryd.prog 15 #[.string ⟨#[97, 110, 100]⟩] w fun e w' => e = .returned (.bool true) ∧ w = w' := by
  have h := word_any ⟨#[97, 110, 100]⟩ w hw
  have e1 : (⟨#[97, 110, 100]⟩ : ByteArray).data.toList = [97, 110, 100] := rfl
  rwa [e1, ex5] at h
theorem call6 (w : World) (hw : Wd w) : Calls Tryd.prog 15 #[.string ⟨#[111, 114]⟩] w fun e w' => e = .returned (.bool false) ∧ w = w' := by
  have h := word_any ⟨#[111, 114]⟩ w hw
  have e1 : (⟨#[111, 114]⟩ : ByteArray).data.toList = [111, 114] := rfl
  rwa [e1, ex6] at h
set_option maxRecDepth 100000 in
set_option maxHeartbeats 3200000 in
theorem awake_any (w : World) (hw : Wd w) :
    Calls Tryd.prog 11 #[] w fun e w' => e = .returned (.bool true) ∧ Below w.heap.size w w' := by
  go_enter Tryd.func11, Tryd.ntmps11
  go_wp2_with fail
  refine (call1 _ hw).mono ?_
  rintro e w1 ⟨g, cap, rfl, T1, hg, k1⟩
  have W1 := hw.below k1 hw.1
  go_wp2_with fail
  refine (call2 _ W1).mono ?_
  rintro e w2 ⟨rfl, k2⟩
  have W2 := W1.below k2 W1.1
  have T2 := T1.below k2 T1.1
  have D2 := Lib.hid (next0 k1 k2)
  clear k1 k2 T1 W1
  have c20 := (T2.2 2 _ rfl).1
  have c21 := (T2.2 2 _ rfl).2.1
  have c22 := (T2.2 2 _ rfl).2.2
  have c70 := (T2.2 7 _ rfl).1
  have c71 := (T2.2 7 _ rfl).2.1
  have c72 := (T2.2 7 _ rfl).2.2
  have d20 : w2.cell? ⟨g, 6, none⟩ = some (.int .i64 3) := c20
  have d21 : w2.cell? ⟨g, 7, none⟩ = some (.string ⟨#[88]⟩) := c21
  have d22 : w2.cell? ⟨g, 8, none⟩ = some (.int .i64 2) := c22
  have d70 : w2.cell? ⟨g, 21, none⟩ = some (.int .i64 0) := c70
  have d71 : w2.cell? ⟨g, 22, none⟩ = some (.string ⟨#[]⟩) := c71
  have d72 : w2.cell? ⟨g, 23, none⟩ = some (.int .i64 11) := c72
  have J := join_any (some ⟨g, 0, none⟩) g 0 8 cap _ w2 (Or.inr rfl) (Or.inr T2) rfl (by omega) (by rw [ex4]; decide)
  rw [ex4] at J
  have J2 := Lib.hid J
  have WW := Lib.hid W2
  clear c20 c21 c22 c70 c71 c72 J T2 W2
  go_wp2_with fail
  refine (call3 _).mono ?_
  rintro e w3 ⟨rfl, rfl⟩
  go_wp2_with fail
  refine J2.out.mono ?_
  rintro e w4 ⟨rfl, k4⟩
  have W4 := Lib.hid (WW.out.below k4 WW.out.1)
  have D4 := Lib.hid (next0 D2.out k4)
  clear k4 D2 WW J2
  go_wp2_with fail
  refine (call5 _ W4.out).mono ?_
  rintro e w5 ⟨rfl, rfl⟩
  go_wp2_with fail
  refine (call6 _ W4.out).mono ?_
  rintro e w6 ⟨rfl, rfl⟩
  go_wp2_with fail
  go_ret
  exact ⟨rfl, D4.out⟩
end LexW
end Go.Proofs.YtckddlglldfniaaDoor
