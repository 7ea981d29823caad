/- The walk of TernaryDual. Condition: the tables are as laid. Made by gnT6.py. -/
import Derived.Test.YtedilgnnfmplgaaDoorNetT5
namespace Go.Proofs.YtedilgnnfmplgaaDoor
open Go Go.RowKit
namespace NetT7
open Kit TermM TermI TermH NetM NetN NetK NetA NetC NetI NetMk NetOk NetEv NetS NetTn NetTt NetTm NetTq NetSa NetT5
theorem row_up {L : List Int} {w w' : World} {v : Value} (h : RowE KN (· < w.heap.size) w L v) (q : Below w.heap.size w w') : RowE KN (· < w'.heap.size) w' L v := (h.keep fun b o hb => q.cell (p := ⟨b, o, none⟩) hb).wide fun _ hb => Nat.lt_of_lt_of_le hb q.size
theorem two_len (x y : Int) : [x, y].length ≤ maxLen := by unfold maxLen; simp
theorem dual_ref (a b : Int) : refN [tand a b, tor a b] [tand a 2, tor a 2] = true := by
  unfold refN
  simp [ref_and2, ref_or2]
set_option maxRecDepth 100000 in
set_option maxHeartbeats 6400000 in
theorem law (a b c : Int) (w : World) (ht : Tb w) : Calls Tryd.prog 8 #[.int .i64 a, .int .i64 b, .int .i64 c] w fun e w' => e = .returned (.bool true) ∧ Below w.heap.size w w' := by
  have TB := Lib.hid (fun w' (q : Below w.heap.size w w') => ht.below q)
  have D0 : Hid (Below w.heap.size w w) := Lib.hid (Below.refl _ _)
  have KAB := Lib.hid (fun w' h => and_any a b w' h)
  have OAB := Lib.hid (fun w' h => or_any a b w' h)
  have KBA := Lib.hid (fun w' h => and_any b a w' h)
  have OBA := Lib.hid (fun w' h => or_any b a w' h)
  have NX := Lib.hid (fun w' h => not_any (tand a b) w' h)
  have NA := Lib.hid (fun w' h => not_any a w' h)
  have NB := Lib.hid (fun w' h => not_any b w' h)
  have ON := Lib.hid (fun w' h => or_any (tnot a) (tnot b) w' h)
  have KXC := Lib.hid (fun w' h => and_any (tand a b) c w' h)
  have KBC := Lib.hid (fun w' h => and_any b c w' h)
  have KABC := Lib.hid (fun w' h => and_any a (tand b c) w' h)
  have KA2 := Lib.hid (fun w' h => and_any a 2 w' h)
  have OA2 := Lib.hid (fun w' h => or_any a 2 w' h)
  have XR := Lib.hid (dual_ref a b)
  have XI : Hid (∀ t ∈ [tand a b, tor a b], I64 t) := Lib.hid (fun t ht => by
    simp at ht
    rcases ht with rfl | rfl
    · exact t3_i64 (t3_and _ _)
    · exact t3_i64 (t3_or _ _))
  have UI : Hid (∀ t ∈ [tand a 2, tor a 2], I64 t) := Lib.hid (fun t ht => by
    simp at ht
    rcases ht with rfl | rfl
    · exact t3_i64 (t3_and _ _)
    · exact t3_i64 (t3_or _ _))
  rw [tand_comm b a] at KBA
  rw [tor_comm b a] at OBA
  rw [← tnot_and] at ON
  rw [← tand_assoc] at KABC
  clear ht
  generalize tand (tand a b) c = s at *
  generalize tand b c = bc at *
  generalize tnot (tand a b) = z at *
  generalize tand a b = x at *
  generalize tor a b = y at *
  generalize tnot a = na at *
  generalize tnot b = nb at *
  generalize tand a 2 = u at *
  generalize tor a 2 = u2 at *
  have b1 : (x != x) = false := by simp
  have b2 : (y != y) = false := by simp
  have b3 : (z != z) = false := by simp
  have b4 : (s != s) = false := by simp
  go_enter Tryd.func8, Tryd.ntmps8
  have C1 := Lib.hid (KAB.out w (TB.out w D0.out))
  go_wp2_with fail
  refine C1.out.mono ?_
  rintro e w1 ⟨rfl, g1⟩
  have J1 : Hid (Below w.heap.size w w1) := Lib.hid (g1)
  have D1 : Hid (Below w.heap.size w w1) := Lib.hid (next0 D0.out J1.out)
  clear g1 C1
  have C2 := Lib.hid (OAB.out w1 (TB.out w1 D1.out))
  go_wp2_with fail
  refine C2.out.mono ?_
  rintro e w2 ⟨rfl, g2⟩
  have J2 : Hid (Below w1.heap.size w1 w2) := Lib.hid (g2)
  have D2 : Hid (Below w.heap.size w w2) := Lib.hid (next0 D1.out J2.out)
  clear g2 C2
  have C3 := Lib.hid (KBA.out w2 (TB.out w2 D2.out))
  go_wp2_with fail
  refine C3.out.mono ?_
  rintro e w3 ⟨rfl, g3⟩
  have J3 : Hid (Below w2.heap.size w2 w3) := Lib.hid (g3)
  have D3 : Hid (Below w.heap.size w w3) := Lib.hid (next0 D2.out J3.out)
  clear g3 C3
  have C4 := Lib.hid (OBA.out w3 (TB.out w3 D3.out))
  go_wp2_with fail
  refine C4.out.mono ?_
  rintro e w4 ⟨rfl, g4⟩
  have J4 : Hid (Below w3.heap.size w3 w4) := Lib.hid (g4)
  have D4 : Hid (Below w.heap.size w w4) := Lib.hid (next0 D3.out J4.out)
  clear g4 C4
  have C5 := Lib.hid (NX.out w4 (TB.out w4 D4.out))
  go_wp2_with fail
  refine C5.out.mono ?_
  rintro e w5 ⟨rfl, g5⟩
  have J5 : Hid (Below w4.heap.size w4 w5) := Lib.hid (g5)
  have D5 : Hid (Below w.heap.size w w5) := Lib.hid (next0 D4.out J5.out)
  clear g5 C5
  have C6 := Lib.hid (NA.out w5 (TB.out w5 D5.out))
  go_wp2_with fail
  refine C6.out.mono ?_
  rintro e w6 ⟨rfl, g6⟩
  have J6 : Hid (Below w5.heap.size w5 w6) := Lib.hid (g6)
  have D6 : Hid (Below w.heap.size w w6) := Lib.hid (next0 D5.out J6.out)
  clear g6 C6
  have C7 := Lib.hid (NB.out w6 (TB.out w6 D6.out))
  go_wp2_with fail
  refine C7.out.mono ?_
  rintro e w7 ⟨rfl, g7⟩
  have J7 : Hid (Below w6.heap.size w6 w7) := Lib.hid (g7)
  have D7 : Hid (Below w.heap.size w w7) := Lib.hid (next0 D6.out J7.out)
  clear g7 C7
  have C8 := Lib.hid (ON.out w7 (TB.out w7 D7.out))
  go_wp2_with fail
  refine C8.out.mono ?_
  rintro e w8 ⟨rfl, g8⟩
  have J8 : Hid (Below w7.heap.size w7 w8) := Lib.hid (g8)
  have D8 : Hid (Below w.heap.size w w8) := Lib.hid (next0 D7.out J8.out)
  clear g8 C8
  have C9 := Lib.hid (KXC.out w8 (TB.out w8 D8.out))
  go_wp2_with fail
  refine C9.out.mono ?_
  rintro e w9 ⟨rfl, g9⟩
  have J9 : Hid (Below w8.heap.size w8 w9) := Lib.hid (g9)
  have D9 : Hid (Below w.heap.size w w9) := Lib.hid (next0 D8.out J9.out)
  clear g9 C9
  have C10 := Lib.hid (KBC.out w9 (TB.out w9 D9.out))
  go_wp2_with fail
  refine C10.out.mono ?_
  rintro e w10 ⟨rfl, g10⟩
  have J10 : Hid (Below w9.heap.size w9 w10) := Lib.hid (g10)
  have D10 : Hid (Below w.heap.size w w10) := Lib.hid (next0 D9.out J10.out)
  clear g10 C10
  have C11 := Lib.hid (KABC.out w10 (TB.out w10 D10.out))
  go_wp2_with fail
  refine C11.out.mono ?_
  rintro e w11 ⟨rfl, g11⟩
  have J11 : Hid (Below w10.heap.size w10 w11) := Lib.hid (g11)
  have D11 : Hid (Below w.heap.size w w11) := Lib.hid (next0 D10.out J11.out)
  clear g11 C11
  have C12 := Lib.hid (alive_any w11 (TB.out w11 D11.out))
  go_wp2_with fail
  refine C12.out.mono ?_
  rintro e w12 ⟨rfl, g12⟩
  have J12 : Hid (Below w11.heap.size w11 w12) := Lib.hid (g12)
  have D12 : Hid (Below w.heap.size w w12) := Lib.hid (next0 D11.out J12.out)
  clear g12 C12
  have C13 := Lib.hid (KA2.out (w12.alloc (.cells #[.int .i64 x, .int .i64 y] 3)) (TB.out _ (next0 D12.out (below_alloc _ _))))
  go_wp2_with fail
  refine C13.out.mono ?_
  rintro e w13 ⟨rfl, g13⟩
  have J13 : Hid (Below w12.heap.size w12 w13) := Lib.hid (next0 (below_alloc _ _) g13)
  have D13 : Hid (Below w.heap.size w w13) := Lib.hid (next0 D12.out J13.out)
  have RG := g13
  clear C13
  have R0 : Hid (RowE KN (· < w13.heap.size) w13 [x, y] (.slice (some ⟨w12.heap.size, 0, none⟩) 2 2)) := Lib.hid (row_up (lit_n w12 rfl [x, y] #[.int .i64 x, .int .i64 y] rfl (two_len _ _) XI.out) RG)
  clear RG
  have C14 := Lib.hid (OA2.out w13 (TB.out w13 D13.out))
  go_wp2_with fail
  refine C14.out.mono ?_
  rintro e w14 ⟨rfl, g14⟩
  have J14 : Hid (Below w13.heap.size w13 w14) := Lib.hid (g14)
  have D14 : Hid (Below w.heap.size w w14) := Lib.hid (next0 D13.out J14.out)
  clear g14 C14
  have R1 : Hid (RowE KN (· < w14.heap.size) w14 [x, y] (.slice (some ⟨w12.heap.size, 0, none⟩) 2 2)) := Lib.hid (row_up R0.out J14.out)
  clear R0
  have C15 := Lib.hid (ref_is XR.out (w14.alloc (.cells #[.int .i64 u, .int .i64 u2] 3)) _ (.slice (some ⟨w14.heap.size, 0, none⟩) 2 2) (lit_on _ R1.out) (lit_n w14 rfl [u, u2] #[.int .i64 u, .int .i64 u2] rfl (two_len _ _) UI.out))
  go_wp2_with fail
  refine C15.out.mono ?_
  rintro e w15 ⟨rfl, g15⟩
  have J15 : Hid (Below w14.heap.size w14 w15) := Lib.hid (next0 (below_alloc _ _) g15)
  have D15 : Hid (Below w.heap.size w w15) := Lib.hid (next0 D14.out J15.out)
  clear g15 C15
  have DF := Lib.hid D15.out
  go_wp2_with fail
  go_ret
  exact ⟨rfl, DF.out⟩
end NetT7
end Go.Proofs.YtedilgnnfmplgaaDoor
