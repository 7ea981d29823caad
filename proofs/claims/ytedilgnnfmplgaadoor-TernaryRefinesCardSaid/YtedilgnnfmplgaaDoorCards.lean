/-
  DERIVED. GIVEN WITH THE SEED: THE CARDS: each row of YtedilgnnfmplgaaDoorRows.lean that lists a variable, with what it lists TIED to the program's text (the seventh form; the later family's looks); each row that meets fmt, with fmt's text TOLD by the authors' own Lean function (tested against real Go, not proved from fmt's source: count such statements apart). THE CARD IS WHAT COUNTS. Prove the row's statement (the work); the ties are given (YtedilgnnfmplgaaDoorTie.lean); close each card by the builder's one call (the guide's Derived/Test/ToyasCard.lean, 'card_holds'). Laid BY PROGRAM, IN A SANDBOX (cutbox-door.mjs). By AI agents, Wed Nov 11 2026. No macro, syntax, notation, axiom, sorry.
-/
import Derived.Test.YtedilgnnfmplgaaDoorRows
import GoSem.ClaimSeven
namespace Go.Proofs.YtedilgnnfmplgaaDoor
namespace Rows

/-- THE TIED CARD OF 'gameplayerlaw25.TernaryLogic'. -/
def ternaryLogicCard : Claim7 := { stood := { row := ternaryLogicRow, standIns := [], harness := (true, "fc69199b94feb5ccfb3258dce93f9bacefc646ae93af0841e6e1f5275167ff8d"), looks := false }, kinds := [], alts := [], laidByText := true, laidKinds := [.data, .data, .data], laidTests := true, laidLooks := .later }
def TernaryLogicCardSaid : Prop := Claim7.holds Tryd.pinned (.plain (OpenSpec.ofChange ternaryLogicSpec)) ternaryLogicCard

/-- THE TIED CARD OF 'gameplayerlaw25.TernaryValues'. -/
def ternaryValuesCard : Claim7 := { stood := { row := ternaryValuesRow, standIns := [], harness := (true, "fc69199b94feb5ccfb3258dce93f9bacefc646ae93af0841e6e1f5275167ff8d"), looks := false }, kinds := [], alts := [], laidByText := true, laidKinds := [.data, .data, .data], laidTests := true, laidLooks := .later }
def TernaryValuesCardSaid : Prop := Claim7.holds Tryd.pinned (.plain (OpenSpec.ofChange ternaryValuesSpec)) ternaryValuesCard

/-- THE TIED CARD OF 'gameplayerlaw25.TernaryKnown'. -/
def ternaryKnownCard : Claim7 := { stood := { row := ternaryKnownRow, standIns := [], harness := (true, "fc69199b94feb5ccfb3258dce93f9bacefc646ae93af0841e6e1f5275167ff8d"), looks := false }, kinds := [], alts := [], laidByText := true, laidKinds := [.data, .data, .data], laidTests := true, laidLooks := .later }
def TernaryKnownCardSaid : Prop := Claim7.holds Tryd.pinned (.plain (OpenSpec.ofChange ternaryKnownSpec)) ternaryKnownCard

/-- THE TIED CARD OF 'gameplayerlaw25.TernaryExact'. -/
def ternaryExactCard : Claim7 := { stood := { row := ternaryExactRow, standIns := [], harness := (true, "fc69199b94feb5ccfb3258dce93f9bacefc646ae93af0841e6e1f5275167ff8d"), looks := false }, kinds := [], alts := [], laidByText := true, laidKinds := [.data, .data, .data], laidTests := true, laidLooks := .later }
def TernaryExactCardSaid : Prop := Claim7.holds Tryd.pinned (.plain (OpenSpec.ofChange ternaryExactSpec)) ternaryExactCard

/-- THE TIED CARD OF 'gameplayerlaw25.TernaryRefines'. -/
def ternaryRefinesCard : Claim7 := { stood := { row := ternaryRefinesRow, standIns := [], harness := (true, "fc69199b94feb5ccfb3258dce93f9bacefc646ae93af0841e6e1f5275167ff8d"), looks := false }, kinds := [], alts := [], laidByText := true, laidKinds := [.data, .data, .data], laidTests := true, laidLooks := .later }
def TernaryRefinesCardSaid : Prop := Claim7.holds Tryd.pinned (.plain (OpenSpec.ofChange ternaryRefinesSpec)) ternaryRefinesCard

/-- THE TIED CARD OF 'gameplayerlaw25.TernaryDual'. -/
def ternaryDualCard : Claim7 := { stood := { row := ternaryDualRow, standIns := [], harness := (true, "fc69199b94feb5ccfb3258dce93f9bacefc646ae93af0841e6e1f5275167ff8d"), looks := false }, kinds := [], alts := [], laidByText := true, laidKinds := [.data, .data, .data], laidTests := true, laidLooks := .later }
def TernaryDualCardSaid : Prop := Claim7.holds Tryd.pinned (.plain (OpenSpec.ofChange ternaryDualSpec)) ternaryDualCard

/-- THE SECOND FORM's CARD OF 'gameplayerlaw25.TernaryLogic'. -/
def ternaryLogicUptoCard : Claim7 := { stood := { row := ternaryLogicUptoRow, standIns := [], harness := (true, "fc69199b94feb5ccfb3258dce93f9bacefc646ae93af0841e6e1f5275167ff8d"), looks := false }, kinds := [], alts := [], laidByText := true, laidKinds := [.data, .data, .data], laidTests := true, laidLooks := .later }
def TernaryLogicUptoCardSaid : Prop := Claim7.holds Tryd.pinned (.plain (OpenSpec.upto ternaryLogicSpec)) ternaryLogicUptoCard

/-- THE SECOND FORM's CARD OF 'gameplayerlaw25.TernaryValues'. -/
def ternaryValuesUptoCard : Claim7 := { stood := { row := ternaryValuesUptoRow, standIns := [], harness := (true, "fc69199b94feb5ccfb3258dce93f9bacefc646ae93af0841e6e1f5275167ff8d"), looks := false }, kinds := [], alts := [], laidByText := true, laidKinds := [.data, .data, .data], laidTests := true, laidLooks := .later }
def TernaryValuesUptoCardSaid : Prop := Claim7.holds Tryd.pinned (.plain (OpenSpec.upto ternaryValuesSpec)) ternaryValuesUptoCard

/-- THE SECOND FORM's CARD OF 'gameplayerlaw25.TernaryKnown'. -/
def ternaryKnownUptoCard : Claim7 := { stood := { row := ternaryKnownUptoRow, standIns := [], harness := (true, "fc69199b94feb5ccfb3258dce93f9bacefc646ae93af0841e6e1f5275167ff8d"), looks := false }, kinds := [], alts := [], laidByText := true, laidKinds := [.data, .data, .data], laidTests := true, laidLooks := .later }
def TernaryKnownUptoCardSaid : Prop := Claim7.holds Tryd.pinned (.plain (OpenSpec.upto ternaryKnownSpec)) ternaryKnownUptoCard

/-- THE SECOND FORM's CARD OF 'gameplayerlaw25.TernaryExact'. -/
def ternaryExactUptoCard : Claim7 := { stood := { row := ternaryExactUptoRow, standIns := [], harness := (true, "fc69199b94feb5ccfb3258dce93f9bacefc646ae93af0841e6e1f5275167ff8d"), looks := false }, kinds := [], alts := [], laidByText := true, laidKinds := [.data, .data, .data], laidTests := true, laidLooks := .later }
def TernaryExactUptoCardSaid : Prop := Claim7.holds Tryd.pinned (.plain (OpenSpec.upto ternaryExactSpec)) ternaryExactUptoCard

/-- THE SECOND FORM's CARD OF 'gameplayerlaw25.TernaryRefines'. -/
def ternaryRefinesUptoCard : Claim7 := { stood := { row := ternaryRefinesUptoRow, standIns := [], harness := (true, "fc69199b94feb5ccfb3258dce93f9bacefc646ae93af0841e6e1f5275167ff8d"), looks := false }, kinds := [], alts := [], laidByText := true, laidKinds := [.data, .data, .data], laidTests := true, laidLooks := .later }
def TernaryRefinesUptoCardSaid : Prop := Claim7.holds Tryd.pinned (.plain (OpenSpec.upto ternaryRefinesSpec)) ternaryRefinesUptoCard

/-- THE SECOND FORM's CARD OF 'gameplayerlaw25.TernaryDual'. -/
def ternaryDualUptoCard : Claim7 := { stood := { row := ternaryDualUptoRow, standIns := [], harness := (true, "fc69199b94feb5ccfb3258dce93f9bacefc646ae93af0841e6e1f5275167ff8d"), looks := false }, kinds := [], alts := [], laidByText := true, laidKinds := [.data, .data, .data], laidTests := true, laidLooks := .later }
def TernaryDualUptoCardSaid : Prop := Claim7.holds Tryd.pinned (.plain (OpenSpec.upto ternaryDualSpec)) ternaryDualUptoCard
end Rows
end Go.Proofs.YtedilgnnfmplgaaDoor
