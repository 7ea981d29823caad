/- The walk of TernaryLogic. Condition: the tables are as laid. Made by gnT6.py. -/
import Derived.Test.YtedilgnnfmplgaaDoorNetT5
namespace Go.Proofs.YtedilgnnfmplgaaDoor
open Go Go.RowKit
namespace NetT6
open Kit TermM TermI TermH NetM NetN NetK NetA NetC NetI NetMk NetOk NetEv NetS NetTn NetTt NetTm NetTq NetSa NetT5
set_option maxRecDepth 100000 in
set_option maxHeartbeats 3200000 in
theorem law (a b : Int) (w : World) (ht : Tb w) : Calls Tryd.prog 3 #[.int .i64 a, .int .i64 b] w fun e w' => e = .returned (.bool true) ∧ Below w.heap.size w w' := by
  have TB := Lib.hid (fun w' (q : Below w.heap.size w w') => ht.below q)
  have D0 : Hid (Below w.heap.size w w) := Lib.hid (Below.refl _ _)
  have K1 := Lib.hid (fun w' h => and_any a b w' h)
  have R1 := Lib.hid (fun w' => rand_any a b w')
  have K2 := Lib.hid (fun w' h => or_any a b w' h)
  have R2 := Lib.hid (fun w' => ror_any a b w')
  have K3 := Lib.hid (fun w' h => not_any a w' h)
  have R3 := Lib.hid (fun w' => rnot_any a w')
  clear ht
  generalize tand a b = x at *
  generalize tor a b = y at *
  generalize tnot a = z at *
  have b1 : (x == x) = true := by simp
  have b2 : (y == y) = true := by simp
  have b3 : (z == z) = true := by simp
  go_enter Tryd.func3, Tryd.ntmps3
  have C1 := Lib.hid (alive_any w (TB.out w D0.out))
  go_wp2_with fail
  refine C1.out.mono ?_
  rintro e w1 ⟨rfl, g1⟩
  have J1 : Hid (Below w.heap.size w w1) := Lib.hid (g1)
  have D1 : Hid (Below w.heap.size w w1) := Lib.hid (next0 D0.out J1.out)
  clear g1 C1
  have C2 := Lib.hid (K1.out w1 (TB.out w1 D1.out))
  go_wp2_with fail
  refine C2.out.mono ?_
  rintro e w2 ⟨rfl, g2⟩
  have J2 : Hid (Below w1.heap.size w1 w2) := Lib.hid (g2)
  have D2 : Hid (Below w.heap.size w w2) := Lib.hid (next0 D1.out J2.out)
  clear g2 C2
  have C3 := Lib.hid (R1.out w2)
  go_wp2_with fail
  refine C3.out.mono ?_
  rintro e w3 ⟨rfl, rfl⟩
  clear C3
  have D3 := D2
  have C4 := Lib.hid (K2.out w2 (TB.out w2 D3.out))
  go_wp2_with fail
  refine C4.out.mono ?_
  rintro e w4 ⟨rfl, g4⟩
  have J4 : Hid (Below w2.heap.size w2 w4) := Lib.hid (g4)
  have D4 : Hid (Below w.heap.size w w4) := Lib.hid (next0 D3.out J4.out)
  clear g4 C4
  have C5 := Lib.hid (R2.out w4)
  go_wp2_with fail
  refine C5.out.mono ?_
  rintro e w5 ⟨rfl, rfl⟩
  clear C5
  have D5 := D4
  have C6 := Lib.hid (K3.out w4 (TB.out w4 D5.out))
  go_wp2_with fail
  refine C6.out.mono ?_
  rintro e w6 ⟨rfl, g6⟩
  have J6 : Hid (Below w4.heap.size w4 w6) := Lib.hid (g6)
  have D6 : Hid (Below w.heap.size w w6) := Lib.hid (next0 D5.out J6.out)
  clear g6 C6
  have C7 := Lib.hid (R3.out w6)
  go_wp2_with fail
  refine C7.out.mono ?_
  rintro e w7 ⟨rfl, rfl⟩
  clear C7
  have D7 := D6
  have DF := Lib.hid D7.out
  go_wp2_with fail
  go_ret
  exact ⟨rfl, DF.out⟩
end NetT6
end Go.Proofs.YtedilgnnfmplgaaDoor
