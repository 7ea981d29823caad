/- The walks of RandomShuffles and RandomPicks, for every shape of the arguments. -/
import Derived.Test.YtdnonfoidamkcaaRandL1
import Derived.Test.YtdnonfoidamkcaaRandF
import Derived.Test.YtdnonfoidamkcaaRandJ
namespace Go.Proofs.Ytdnonfoidamkcaa
open Go Go.RowKit
namespace RandL2
open Kit RandM RandA RandB RandC RandD RandE RandF RandG RandH RandJ RandW RandL1
theorem shuffled_length (s : Int) (m : Nat) : (shuffled s m).2.length = m := by unfold shuffled; rw [shuf_length, upTo_length]
set_option maxRecDepth 100000 in
set_option maxHeartbeats 3200000 in
theorem shuffles (s n : Int) (w : World) :
    Calls Try.prog 6 #[.int .u64 s, .int .i64 n] w fun e w' => e = .returned (.bool true) ∧ Below w.heap.size w w' := by
  have C1 := Lib.hid (fun w => shuffle_any s n w)
  have C2 := Lib.hid (fun w => rshuffle_any s n w)
  have C5 := Lib.hid awake_any
  have hl := shuffled_length s (size n)
  have hz := size_le n
  unfold Shuf at C1 C2
  generalize shuffled s (size n) = R at *
  generalize size n = m at *
  obtain ⟨S, l⟩ := R
  dsimp only at C1 C2 hl
  have C6 := Lib.hid (fun g1 g2 w h1 h2 => ints_eq g1 g2 m m m l w h1 h2 hl hz)
  clear hl
  go_enter Try.func6, Try.ntmps6
  go_wp2_with fail
  refine (C1.out _).mono ?_
  rintro e w1 ⟨L1, rfl, hL1, a1, k1⟩
  have V1 := Lib.hid (a1)
  have D := Lib.hid k1
  clear k1
  have lV1 := V1.out.lt
  go_wp2_with fail
  refine (C2.out _).mono ?_
  rintro e w2 ⟨L2, rfl, hL2, a2, k2⟩
  clear lV1
  have V1 := Lib.hid (by first | exact Has.step0 V1.out k2 | exact Has.step V1.out k2 | exact Has.below ((V1.out.alloc _).alloc _) k2 (by have := V1.out.lt; simp; omega))
  have A2 := Lib.hid (Has.made k2)
  have V3 := Lib.hid (a2)
  have D := Lib.hid (by first | exact next0 D.out k2 | exact next1 D.out k2 | exact next0 D.out (next2 k2))
  clear k2
  have lV1 := V1.out.lt
  have cA2 := A2.out.cell 0
  have lA2 := A2.out.lt
  have lV3 := V3.out.lt
  simp only [List.getElem?_toArray, List.getElem?_cons_zero] at cA2
  go_wp2_with fail
  have B1 := V1.out.alloc (.cells #[.int .u64 S] 24)
  have B3 := V3.out.alloc (.cells #[.int .u64 S] 24)
  clear lV1 cA2 lA2 lV3
  refine (C6.out _ _ _ B1 B3).mono ?_
  rintro e w3 ⟨rfl, k3⟩
  have D := Lib.hid (by first | exact next0 D.out k3 | exact next1 D.out k3 | exact next0 D.out (next2 k3))
  clear k3
  go_wp2_with fail
  refine (C5.out _).mono ?_
  rintro e w4 ⟨rfl, k4⟩
  have D := Lib.hid (by first | exact next0 D.out k4 | exact next1 D.out k4 | exact next0 D.out (next2 k4))
  clear k4
  go_wp2_with fail
  go_ret
  exact ⟨rfl, D.out⟩
set_option maxRecDepth 100000 in
set_option maxHeartbeats 3200000 in
theorem picks_long (s : Int) (a : Option Addr) (m cap : Nat) (w : World) (hm : 5000 < m) :
    Calls Try.prog 7 #[.int .u64 s, .slice a m cap] w fun e w' => e = .returned (.bool true) ∧ Below w.heap.size w w' := by
  have C5 := Lib.hid awake_any
  go_enter Try.func7, Try.ntmps7
  go_wp2_with fail
  refine (C5.out _).mono ?_
  rintro e w1 ⟨rfl, k1⟩
  go_wp2_with fail
  go_ret
  exact ⟨rfl, k1⟩
set_option maxRecDepth 100000 in
set_option maxHeartbeats 3200000 in
theorem picks_of (s : Int) (a : Option Addr) (m cap : Nat) (w : World) (r : Int × Int) (hm : m ≤ 5000)
    (p1 : ∀ w', Below w.heap.size w w' → Calls Try.prog 23 #[.agg #[.int .u64 s], .slice a m cap] w' fun e w'' => e = .returned (pk r) ∧ Below w'.heap.size w' w'')
    (p2 : ∀ w', Below w.heap.size w w' → Calls Try.prog 24 #[.agg #[.int .u64 s], .slice a m cap] w' fun e w'' => e = .returned (pk r) ∧ Below w'.heap.size w' w'') :
    Calls Try.prog 7 #[.int .u64 s, .slice a m cap] w fun e w' => e = .returned (.bool true) ∧ Below w.heap.size w w' := by
  have C5 := Lib.hid awake_any
  obtain ⟨r1, r2⟩ := r
  have C1 := Lib.hid p1
  have C2 := Lib.hid p2
  unfold pk at C1 C2
  dsimp only at C1 C2
  clear p1 p2
  go_enter Try.func7, Try.ntmps7
  have T0 := Below.refl w.heap.size w
  go_wp2_with fail
  refine (C1.out _ T0).mono ?_
  rintro e w1 ⟨rfl, k1⟩
  have D := Lib.hid k1
  clear k1
  have T1 := D.out.trans ((below_alloc w1 (.cells #[.int .u64 r1] 24)).mono D.out.size)
  go_wp2_with fail
  refine (C2.out _ T1).mono ?_
  rintro e w2 ⟨rfl, k2⟩
  have A1 := Lib.hid (Has.made k2)
  have D := Lib.hid (by first | exact next0 D.out k2 | exact next1 D.out k2 | exact next0 D.out (next2 k2))
  clear k2
  have cA1 := A1.out.cell 0
  have lA1 := A1.out.lt
  simp only [List.getElem?_toArray, List.getElem?_cons_zero] at cA1
  go_wp2_with fail
  refine (C5.out _).mono ?_
  rintro e w3 ⟨rfl, k3⟩
  clear cA1 lA1
  have A1 := Lib.hid (by first | exact Has.step0 A1.out k3 | exact Has.step A1.out k3 | exact Has.below ((A1.out.alloc _).alloc _) k3 (by have := A1.out.lt; simp; omega))
  have A2 := Lib.hid (Has.made k3)
  have D := Lib.hid (by first | exact next0 D.out k3 | exact next1 D.out k3 | exact next0 D.out (next2 k3))
  clear k3
  go_wp2_with fail
  go_ret
  exact ⟨rfl, D.out⟩
theorem picks_none (s : Int) (a : Option Addr) (cap : Nat) (w : World) : Calls Try.prog 7 #[.int .u64 s, .slice a 0 cap] w fun e w' => e = .returned (.bool true) ∧ Below w.heap.size w w' :=
  picks_of s a 0 cap w (s, -1) (by omega) (fun w' _ => pick_none s a cap w') (fun w' _ => rpick_none s a cap w')
theorem picks_some (s : Int) (b off m cap : Nat) (l : List Int) (w : World) (hw : Ws w b off l) (hl : l.length = m) : Calls Try.prog 7 #[.int .u64 s, .slice (some ⟨b, off, none⟩) m cap] w fun e w' => e = .returned (.bool true) ∧ Below w.heap.size w w' := by
  by_cases h5 : 5000 < m
  · exact picks_long s _ m cap w h5
  · by_cases h4 : 4096 < m
    · exact picks_of s _ m cap w (s, -1) (by omega) (fun w' _ => pick_long s _ m cap w' h4) (fun w' _ => rpick_long s _ m cap w' h4)
    · exact picks_of s _ m cap w (pickF s l) (by omega) (fun w' h => pick_some b off m cap l s w' (hw.below h hw.1) hl (by omega)) (fun w' h => rpick_some b off m cap l s w' (hw.below h hw.1) hl (by omega))
end RandL2
end Go.Proofs.Ytdnonfoidamkcaa
