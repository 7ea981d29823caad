/- The walk of DeltaNone, with what alive answers as a premise. Made by gnDk.py. -/
import Derived.Test.YtmancliopfokgaaNetDh
namespace Go.Proofs.Ytmancliopfokgaa
open Go Go.RowKit
namespace NetDk
open Kit TermM TermI NetM NetN NetK NetA NetC NetI NetMk NetNu NetOk NetEv NetBo NetDn NetDh
/-- alive of law24 answers true. -/
def Alive24 : Prop := ∀ w, Calls Try.prog 9 #[] w fun e w' => e = .returned (.bool true) ∧ Below w.heap.size w w'
set_option maxRecDepth 100000 in
set_option maxHeartbeats 3200000 in
theorem law (AL : Alive24) (p p1 : Option Addr) (n c n1 c1 : Nat) (g : Int) (w : World) (hn : n ≤ maxLen) (hn1 : n1 ≤ maxLen) :
    Calls Try.prog 6 #[.agg #[.slice p n c, .slice p1 n1 c1], .int .i64 g] w fun e w' => e = .returned (.bool true) ∧ Below w.heap.size w w' := by
  obtain ⟨W1, hW1⟩ : ∃ z, z = w.alloc (.cells #[.slice p n c, .slice p1 n1 c1] 60) := ⟨_, rfl⟩
  obtain ⟨W2, hW2⟩ : ∃ z, z = W1.alloc (.cells #[.slice p n c, .slice p1 n1 c1] 60) := ⟨_, rfl⟩
  have K1 : Hid (Below w.heap.size w W1) := Lib.hid (by rw [hW1]; exact below_alloc _ _)
  have K2 : Hid (Below W1.heap.size W1 W2) := Lib.hid (by rw [hW2]; exact below_alloc _ _)
  have H1 : Hid (Has W1 w.heap.size #[.slice p n c, .slice p1 n1 c1]) := Lib.hid (by rw [hW1]; exact Has.new _ _ _)
  have H2 : Has W2 W1.heap.size #[.slice p n c, .slice p1 n1 c1] := by rw [hW2]; exact Has.new _ _ _
  have CS := Lib.hid (short_one W1.heap.size 1 p p1 n c n1 c1 W2 (H2.cell 0) (H2.cell 1) hn hn1)
  have A := Lib.hid AL
  have x0 := H1.out.cell 0
  have x1 := H1.out.cell 1
  clear AL H2 hn hn1
  unfold SoB at CS
  go_enter Try.func6, Try.ntmps6
  go_upto_region 1 with fail
  rw [← hW1]
  clear hW1
  go_wp2_with fail
  rw [← hW2]
  clear hW2
  refine CS.out.mono ?_
  rintro e w3 ⟨b, rfl, g3⟩
  have D3 : Hid (Below w.heap.size w w3) := Lib.hid (next0 (next0 K1.out K2.out) g3)
  have H3 := Lib.hid ((H1.out.step0 K2.out).step0 g3)
  clear g3 CS x0 x1
  have A3 := Lib.hid (A.out w3)
  cases b
  · go_wp2_with fail
    refine A3.out.mono ?_
    rintro e w4 ⟨rfl, g4⟩
    have DF := Lib.hid (next0 D3.out g4)
    clear g4 A3
    go_wp2_with fail
    go_ret
    exact ⟨rfl, DF.out⟩
  have x0 := H3.out.cell 0
  have x1 := H3.out.cell 1
  have CT := Lib.hid (set_nil p p1 n c n1 c1 w3)
  go_wp2_with fail
  refine CT.out.mono ?_
  rintro e w4 ⟨rfl, rfl⟩
  clear CT x0 x1
  have CT := Lib.hid (state_nil w3)
  go_wp2_with fail
  refine CT.out.mono ?_
  rintro e w4 ⟨rfl, rfl⟩
  clear CT
  go_wp2_with fail
  refine A3.out.mono ?_
  rintro e w4 ⟨rfl, g4⟩
  have DF := Lib.hid (next0 D3.out g4)
  clear g4 A3
  have V1 := Lib.hid (value_nil g w4)
  have V2 := Lib.hid (values_nil w4)
  have V3 := Lib.hid (work_nil w4)
  go_wp2_with fail
  refine V1.out.mono ?_
  rintro e w5 ⟨rfl, rfl⟩
  clear V1
  go_wp2_with fail
  refine V2.out.mono ?_
  rintro e w5 ⟨rfl, rfl⟩
  clear V2
  go_wp2_with fail
  refine V3.out.mono ?_
  rintro e w5 ⟨rfl, rfl⟩
  clear V3
  go_wp2_with fail
  go_ret
  exact ⟨rfl, DF.out⟩
end NetDk
end Go.Proofs.Ytmancliopfokgaa
