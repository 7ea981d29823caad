/-
  DERIVED. GIVEN WITH THE SEED: THE CARDS: each row of YtihbnonbhelbmaaGreatDoorRows.lean that lists a variable, with what it lists TIED to the program's text (the seventh form; the later family's looks); each row that meets fmt, with fmt's text TOLD by the authors' own Lean function (tested against real Go, not proved from fmt's source: count such statements apart). THE CARD IS WHAT COUNTS. Prove the row's statement (the work); the ties are given (YtihbnonbhelbmaaGreatDoorTie.lean); close each card by the builder's one call (the guide's Derived/Test/ToyasCard.lean, 'card_holds'). Laid BY PROGRAM, IN A SANDBOX (cutbox-door.mjs). By AI agents, Wed Nov 11 2026. No macro, syntax, notation, axiom, sorry.
-/
import Derived.Test.YtihbnonbhelbmaaGreatDoorRows
import GoSem.ClaimSeven
namespace Go.Proofs.YtihbnonbhelbmaaGreatDoor
namespace Rows

/-- THE TIED CARD OF 'gameplayerlaw07.UnifyValid'. -/
def unifyValidCard : Claim7 := { stood := { row := unifyValidRow, standIns := [], harness := (true, "d430c8be9b2681942818f6b59fa5a4b53bd05db0e3dc5a2bbeb5d8e2813ec417"), looks := false }, kinds := [], alts := [], laidByText := true, laidKinds := [.data, .data, .data, .data], laidTests := true, laidLooks := .later }
def UnifyValidCardSaid : Prop := Claim7.holds Tryz.pinned (.plain (OpenSpec.ofChange unifyValidSpec)) unifyValidCard

/-- THE TIED CARD OF 'gameplayerlaw07.UnifyApplies'. -/
def unifyAppliesCard : Claim7 := { stood := { row := unifyAppliesRow, standIns := [], harness := (true, "d430c8be9b2681942818f6b59fa5a4b53bd05db0e3dc5a2bbeb5d8e2813ec417"), looks := false }, kinds := [], alts := [], laidByText := true, laidKinds := [.data, .data, .data, .data], laidTests := true, laidLooks := .later }
def UnifyAppliesCardSaid : Prop := Claim7.holds Tryz.pinned (.plain (OpenSpec.ofChange unifyAppliesSpec)) unifyAppliesCard

/-- THE TIED CARD OF 'gameplayerlaw07.UnifyMatches'. -/
def unifyMatchesCard : Claim7 := { stood := { row := unifyMatchesRow, standIns := [], harness := (true, "d430c8be9b2681942818f6b59fa5a4b53bd05db0e3dc5a2bbeb5d8e2813ec417"), looks := false }, kinds := [], alts := [], laidByText := true, laidKinds := [.data, .data, .data, .data], laidTests := true, laidLooks := .later }
def UnifyMatchesCardSaid : Prop := Claim7.holds Tryz.pinned (.plain (OpenSpec.ofChange unifyMatchesSpec)) unifyMatchesCard

/-- THE TIED CARD OF 'gameplayerlaw07.UnifyUnifies'. -/
def unifyUnifiesCard : Claim7 := { stood := { row := unifyUnifiesRow, standIns := [], harness := (true, "d430c8be9b2681942818f6b59fa5a4b53bd05db0e3dc5a2bbeb5d8e2813ec417"), looks := false }, kinds := [], alts := [], laidByText := true, laidKinds := [.data, .data, .data, .data], laidTests := true, laidLooks := .later }
def UnifyUnifiesCardSaid : Prop := Claim7.holds Tryz.pinned (.plain (OpenSpec.ofChange unifyUnifiesSpec)) unifyUnifiesCard

/-- THE TIED CARD OF 'gameplayerlaw07.UnifyComposes'. -/
def unifyComposesCard : Claim7 := { stood := { row := unifyComposesRow, standIns := [], harness := (true, "d430c8be9b2681942818f6b59fa5a4b53bd05db0e3dc5a2bbeb5d8e2813ec417"), looks := false }, kinds := [], alts := [], laidByText := true, laidKinds := [.data, .data, .data, .data], laidTests := true, laidLooks := .later }
def UnifyComposesCardSaid : Prop := Claim7.holds Tryz.pinned (.plain (OpenSpec.ofChange unifyComposesSpec)) unifyComposesCard

/-- THE TIED CARD OF 'gameplayerlaw07.UnifyRenames'. -/
def unifyRenamesCard : Claim7 := { stood := { row := unifyRenamesRow, standIns := [], harness := (true, "d430c8be9b2681942818f6b59fa5a4b53bd05db0e3dc5a2bbeb5d8e2813ec417"), looks := false }, kinds := [], alts := [], laidByText := true, laidKinds := [.data, .data, .data, .data], laidTests := true, laidLooks := .later }
def UnifyRenamesCardSaid : Prop := Claim7.holds Tryz.pinned (.plain (OpenSpec.ofChange unifyRenamesSpec)) unifyRenamesCard

/-- THE TIED CARD OF 'gameplayerlaw07.UnifyMost'. -/
def unifyMostCard : Claim7 := { stood := { row := unifyMostRow, standIns := [], harness := (true, "d430c8be9b2681942818f6b59fa5a4b53bd05db0e3dc5a2bbeb5d8e2813ec417"), looks := false }, kinds := [], alts := [], laidByText := true, laidKinds := [.data, .data, .data, .data], laidTests := true, laidLooks := .later }
def UnifyMostCardSaid : Prop := Claim7.holds Tryz.pinned (.plain (OpenSpec.ofChange unifyMostSpec)) unifyMostCard

/-- THE TIED CARD OF 'gameplayerlaw07.UnifyInstances'. -/
def unifyInstancesCard : Claim7 := { stood := { row := unifyInstancesRow, standIns := [], harness := (true, "d430c8be9b2681942818f6b59fa5a4b53bd05db0e3dc5a2bbeb5d8e2813ec417"), looks := false }, kinds := [], alts := [], laidByText := true, laidKinds := [.data, .data, .data, .data], laidTests := true, laidLooks := .later }
def UnifyInstancesCardSaid : Prop := Claim7.holds Tryz.pinned (.plain (OpenSpec.ofChange unifyInstancesSpec)) unifyInstancesCard

/-- THE TIED CARD OF 'gameplayerlaw07.UnifyComposition'. -/
def unifyCompositionCard : Claim7 := { stood := { row := unifyCompositionRow, standIns := [], harness := (true, "d430c8be9b2681942818f6b59fa5a4b53bd05db0e3dc5a2bbeb5d8e2813ec417"), looks := false }, kinds := [], alts := [], laidByText := true, laidKinds := [.data, .data, .data, .data], laidTests := true, laidLooks := .later }
def UnifyCompositionCardSaid : Prop := Claim7.holds Tryz.pinned (.plain (OpenSpec.ofChange unifyCompositionSpec)) unifyCompositionCard

/-- THE SECOND FORM's CARD OF 'gameplayerlaw07.UnifyValid'. -/
def unifyValidUptoCard : Claim7 := { stood := { row := unifyValidUptoRow, standIns := [], harness := (true, "d430c8be9b2681942818f6b59fa5a4b53bd05db0e3dc5a2bbeb5d8e2813ec417"), looks := false }, kinds := [], alts := [], laidByText := true, laidKinds := [.data, .data, .data, .data], laidTests := true, laidLooks := .later }
def UnifyValidUptoCardSaid : Prop := Claim7.holds Tryz.pinned (.plain (OpenSpec.upto unifyValidSpec)) unifyValidUptoCard

/-- THE SECOND FORM's CARD OF 'gameplayerlaw07.UnifyApplies'. -/
def unifyAppliesUptoCard : Claim7 := { stood := { row := unifyAppliesUptoRow, standIns := [], harness := (true, "d430c8be9b2681942818f6b59fa5a4b53bd05db0e3dc5a2bbeb5d8e2813ec417"), looks := false }, kinds := [], alts := [], laidByText := true, laidKinds := [.data, .data, .data, .data], laidTests := true, laidLooks := .later }
def UnifyAppliesUptoCardSaid : Prop := Claim7.holds Tryz.pinned (.plain (OpenSpec.upto unifyAppliesSpec)) unifyAppliesUptoCard

/-- THE SECOND FORM's CARD OF 'gameplayerlaw07.UnifyMatches'. -/
def unifyMatchesUptoCard : Claim7 := { stood := { row := unifyMatchesUptoRow, standIns := [], harness := (true, "d430c8be9b2681942818f6b59fa5a4b53bd05db0e3dc5a2bbeb5d8e2813ec417"), looks := false }, kinds := [], alts := [], laidByText := true, laidKinds := [.data, .data, .data, .data], laidTests := true, laidLooks := .later }
def UnifyMatchesUptoCardSaid : Prop := Claim7.holds Tryz.pinned (.plain (OpenSpec.upto unifyMatchesSpec)) unifyMatchesUptoCard

/-- THE SECOND FORM's CARD OF 'gameplayerlaw07.UnifyUnifies'. -/
def unifyUnifiesUptoCard : Claim7 := { stood := { row := unifyUnifiesUptoRow, standIns := [], harness := (true, "d430c8be9b2681942818f6b59fa5a4b53bd05db0e3dc5a2bbeb5d8e2813ec417"), looks := false }, kinds := [], alts := [], laidByText := true, laidKinds := [.data, .data, .data, .data], laidTests := true, laidLooks := .later }
def UnifyUnifiesUptoCardSaid : Prop := Claim7.holds Tryz.pinned (.plain (OpenSpec.upto unifyUnifiesSpec)) unifyUnifiesUptoCard

/-- THE SECOND FORM's CARD OF 'gameplayerlaw07.UnifyComposes'. -/
def unifyComposesUptoCard : Claim7 := { stood := { row := unifyComposesUptoRow, standIns := [], harness := (true, "d430c8be9b2681942818f6b59fa5a4b53bd05db0e3dc5a2bbeb5d8e2813ec417"), looks := false }, kinds := [], alts := [], laidByText := true, laidKinds := [.data, .data, .data, .data], laidTests := true, laidLooks := .later }
def UnifyComposesUptoCardSaid : Prop := Claim7.holds Tryz.pinned (.plain (OpenSpec.upto unifyComposesSpec)) unifyComposesUptoCard

/-- THE SECOND FORM's CARD OF 'gameplayerlaw07.UnifyRenames'. -/
def unifyRenamesUptoCard : Claim7 := { stood := { row := unifyRenamesUptoRow, standIns := [], harness := (true, "d430c8be9b2681942818f6b59fa5a4b53bd05db0e3dc5a2bbeb5d8e2813ec417"), looks := false }, kinds := [], alts := [], laidByText := true, laidKinds := [.data, .data, .data, .data], laidTests := true, laidLooks := .later }
def UnifyRenamesUptoCardSaid : Prop := Claim7.holds Tryz.pinned (.plain (OpenSpec.upto unifyRenamesSpec)) unifyRenamesUptoCard

/-- THE SECOND FORM's CARD OF 'gameplayerlaw07.UnifyMost'. -/
def unifyMostUptoCard : Claim7 := { stood := { row := unifyMostUptoRow, standIns := [], harness := (true, "d430c8be9b2681942818f6b59fa5a4b53bd05db0e3dc5a2bbeb5d8e2813ec417"), looks := false }, kinds := [], alts := [], laidByText := true, laidKinds := [.data, .data, .data, .data], laidTests := true, laidLooks := .later }
def UnifyMostUptoCardSaid : Prop := Claim7.holds Tryz.pinned (.plain (OpenSpec.upto unifyMostSpec)) unifyMostUptoCard

/-- THE SECOND FORM's CARD OF 'gameplayerlaw07.UnifyInstances'. -/
def unifyInstancesUptoCard : Claim7 := { stood := { row := unifyInstancesUptoRow, standIns := [], harness := (true, "d430c8be9b2681942818f6b59fa5a4b53bd05db0e3dc5a2bbeb5d8e2813ec417"), looks := false }, kinds := [], alts := [], laidByText := true, laidKinds := [.data, .data, .data, .data], laidTests := true, laidLooks := .later }
def UnifyInstancesUptoCardSaid : Prop := Claim7.holds Tryz.pinned (.plain (OpenSpec.upto unifyInstancesSpec)) unifyInstancesUptoCard

/-- THE SECOND FORM's CARD OF 'gameplayerlaw07.UnifyComposition'. -/
def unifyCompositionUptoCard : Claim7 := { stood := { row := unifyCompositionUptoRow, standIns := [], harness := (true, "d430c8be9b2681942818f6b59fa5a4b53bd05db0e3dc5a2bbeb5d8e2813ec417"), looks := false }, kinds := [], alts := [], laidByText := true, laidKinds := [.data, .data, .data, .data], laidTests := true, laidLooks := .later }
def UnifyCompositionUptoCardSaid : Prop := Claim7.holds Tryz.pinned (.plain (OpenSpec.upto unifyCompositionSpec)) unifyCompositionUptoCard
end Rows
end Go.Proofs.YtihbnonbhelbmaaGreatDoor
