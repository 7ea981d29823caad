/-
  DERIVED. GIVEN WITH THE SEED: THE PROGRAM's TIES (one call each: nine closed facts by the kernel) AND EACH ROW's TIE, after the 31st guide's Derived/Test/Toyas{Tie, Card}.lean. No idea stands in it: it is a product of the set-up. Laid BY PROGRAM, IN A SANDBOX (cutbox-door.mjs). By AI agents, Wed Nov 11 2026. No macro, syntax, notation, axiom, sorry.
-/
import Derived.Test.YtedilgnnfmplgaaDoorRows
import Derived.LaidByTextLater
import Derived.SevenTiedAt
import Derived.LaidSub
import Derived.LaidOnce
namespace Go.Proofs.YtedilgnnfmplgaaDoor
open Go
set_option maxRecDepth 100000
theorem seatTie1 : Tryd.prog.laidByTextLater [("gameplayer/ternary.conjunctions", Rows.laid_gameplayer_ternary_conjunctions), ("gameplayer/ternary.disjunctions", Rows.laid_gameplayer_ternary_disjunctions), ("gameplayer/ternary.negations", Rows.laid_gameplayer_ternary_negations)] [.data, .data, .data] true :=
  Program.laidByTextLater_by_one 30 8 10 (by kernel_rfl) (by kernel_rfl) (by kernel_rfl) (by kernel_rfl) (by kernel_rfl) (by kernel_rfl) (fun _ _ => by kernel_rfl)
theorem noOwnUnsafe : Tryd.pinned.checked.prog.headLifts.contains "ownunsafe" = false := by kernel_rfl
theorem tie : Tryd.prog.laidByTextLater [("gameplayer/ternary.conjunctions", Rows.laid_gameplayer_ternary_conjunctions), ("gameplayer/ternary.disjunctions", Rows.laid_gameplayer_ternary_disjunctions), ("gameplayer/ternary.negations", Rows.laid_gameplayer_ternary_negations)] [.data, .data, .data] true :=
  Program.laidByTextLater.sub seatTie1 ["gameplayer/ternary.conjunctions", "gameplayer/ternary.disjunctions", "gameplayer/ternary.negations"] (by kernel_rfl) (by kernel_rfl)
theorem ternaryLogic_row_tie : Rows.ternaryLogicRow.laidByTextAt .later Tryd.pinned [.data, .data, .data] true :=
  OpenClaim.laidByTextAt_later rfl rfl tie noOwnUnsafe
theorem ternaryValues_row_tie : Rows.ternaryValuesRow.laidByTextAt .later Tryd.pinned [.data, .data, .data] true :=
  OpenClaim.laidByTextAt_later rfl rfl tie noOwnUnsafe
theorem ternaryKnown_row_tie : Rows.ternaryKnownRow.laidByTextAt .later Tryd.pinned [.data, .data, .data] true :=
  OpenClaim.laidByTextAt_later rfl rfl tie noOwnUnsafe
theorem ternaryExact_row_tie : Rows.ternaryExactRow.laidByTextAt .later Tryd.pinned [.data, .data, .data] true :=
  OpenClaim.laidByTextAt_later rfl rfl tie noOwnUnsafe
theorem ternaryRefines_row_tie : Rows.ternaryRefinesRow.laidByTextAt .later Tryd.pinned [.data, .data, .data] true :=
  OpenClaim.laidByTextAt_later rfl rfl tie noOwnUnsafe
theorem ternaryDual_row_tie : Rows.ternaryDualRow.laidByTextAt .later Tryd.pinned [.data, .data, .data] true :=
  OpenClaim.laidByTextAt_later rfl rfl tie noOwnUnsafe
theorem ternaryLogicUpto_row_tie : Rows.ternaryLogicUptoRow.laidByTextAt .later Tryd.pinned [.data, .data, .data] true :=
  OpenClaim.laidByTextAt_later rfl rfl tie noOwnUnsafe
theorem ternaryValuesUpto_row_tie : Rows.ternaryValuesUptoRow.laidByTextAt .later Tryd.pinned [.data, .data, .data] true :=
  OpenClaim.laidByTextAt_later rfl rfl tie noOwnUnsafe
theorem ternaryKnownUpto_row_tie : Rows.ternaryKnownUptoRow.laidByTextAt .later Tryd.pinned [.data, .data, .data] true :=
  OpenClaim.laidByTextAt_later rfl rfl tie noOwnUnsafe
theorem ternaryExactUpto_row_tie : Rows.ternaryExactUptoRow.laidByTextAt .later Tryd.pinned [.data, .data, .data] true :=
  OpenClaim.laidByTextAt_later rfl rfl tie noOwnUnsafe
theorem ternaryRefinesUpto_row_tie : Rows.ternaryRefinesUptoRow.laidByTextAt .later Tryd.pinned [.data, .data, .data] true :=
  OpenClaim.laidByTextAt_later rfl rfl tie noOwnUnsafe
theorem ternaryDualUpto_row_tie : Rows.ternaryDualUptoRow.laidByTextAt .later Tryd.pinned [.data, .data, .data] true :=
  OpenClaim.laidByTextAt_later rfl rfl tie noOwnUnsafe
end Go.Proofs.YtedilgnnfmplgaaDoor
