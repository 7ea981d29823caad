/- law24's short at one operation. No conditions. Made by gnDh.py. -/
import Derived.Test.YtmancliopfokgaaNetDn
namespace Go.Proofs.Ytmancliopfokgaa
open Go Go.RowKit
namespace NetDh
open Kit TermM TermI NetM NetN NetK NetA NetC NetI NetMk NetNu NetOk NetEv NetBo
def SoB (w : World) (e : Ending) (w' : World) : Prop := ∃ b, e = .returned (.bool b) ∧ Below w.heap.size w w'
theorem SoB.mk {b : Bool} {w w' : World} (h : Below w.heap.size w w') : SoB w (.returned (.bool b)) w' := ⟨b, rfl, h⟩
set_option maxRecDepth 100000 in
theorem short_one (g cap : Nat) (p p1 : Option Addr) (n c n1 c1 : Nat) (w : World) (h0 : w.cell? ⟨g, 0, none⟩ = some (.slice p n c)) (h1 : w.cell? ⟨g, 1, none⟩ = some (.slice p1 n1 c1)) (hn : n ≤ maxLen) (hn1 : n1 ≤ maxLen) : Calls Try.prog 21 #[.slice (some ⟨g, 0, none⟩) 1 cap] w (SoB w) := by
  unfold maxLen at hn hn1
  go_enter Try.func21, Try.ntmps21
  go_wp2_with fail
  go_loopw [3] (fun i wr => (i = .int .i64 0 ∨ i = .int .i64 1) ∧ Hid (Below w.heap.size w wr)) (fun i _ => 1 - (intOf i).toNat)
  case atStart => exact ⟨Or.inl rfl, Lib.hid (Below.refl _ _)⟩
  case round =>
    obtain ⟨hi, hD⟩ := hrel
    rcases hi with rfl | rfl
    · have x0 := (hD.out.cell (p := ⟨g, 0, none⟩) (block_lt_of_cell h0)).trans h0
      have x1 := (hD.out.cell (p := ⟨g, 1, none⟩) (block_lt_of_cell h1)).trans h1
      by_cases hs : (n : Int) + (n1 : Int) ≤ 9223372036854775807
      rotate_left
      · have hw : IntKind.i64.wrap ((n : Int) + (n1 : Int)) = (n : Int) + (n1 : Int) - 18446744073709551616 := by rw [IntKind.wrap_i64]; omega
        have hb : ¬ ((n : Int) + (n1 : Int) - 18446744073709551616 > 40) := by omega
        go_wp2_with fail
        go_quiet (fail)
        have DF := Lib.hid (below_drewN hD.out nq)
        go_wp2_with fail
        go_roundw
        case rel => first | exact ⟨Or.inr rfl, DF⟩ | ((repeat (apply Exists.intro)); refine ⟨?_, rfl⟩; exact ⟨Or.inr rfl, DF⟩) | exact ⟨Or.inr (by go_num), DF⟩
        case measure => simp [intOf]
      by_cases hb : (n : Int) + (n1 : Int) > 40
      · go_wp2_with fail
        go_quiet (fail)
        have DF := Lib.hid (below_drewN hD.out nq)
        go_wp2_with fail
        go_ret
        exact SoB.mk DF.out
      · go_wp2_with fail
        go_quiet (fail)
        have DF := Lib.hid (below_drewN hD.out nq)
        go_wp2_with fail
        go_roundw
        case rel => first | exact ⟨Or.inr rfl, DF⟩ | ((repeat (apply Exists.intro)); refine ⟨?_, rfl⟩; exact ⟨Or.inr rfl, DF⟩) | exact ⟨Or.inr (by go_num), DF⟩
        case measure => simp [intOf]
    · go_wp2_with fail
      go_ret
      exact SoB.mk hD.out
end NetDh
end Go.Proofs.Ytmancliopfokgaa
