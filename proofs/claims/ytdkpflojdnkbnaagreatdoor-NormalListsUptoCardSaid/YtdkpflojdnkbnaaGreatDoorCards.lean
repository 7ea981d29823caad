/-
  DERIVED. GIVEN WITH THE SEED: THE CARDS: each row of YtdkpflojdnkbnaaGreatDoorRows.lean that lists a variable, with what it lists TIED to the program's text (the seventh form; the later family's looks); each row that meets fmt, with fmt's text TOLD by the authors' own Lean function (tested against real Go, not proved from fmt's source: count such statements apart). THE CARD IS WHAT COUNTS. Prove the row's statement (the work); the ties are given (YtdkpflojdnkbnaaGreatDoorTie.lean); close each card by the builder's one call (the guide's Derived/Test/ToyasCard.lean, 'card_holds'). Laid BY PROGRAM, IN A SANDBOX (cutbox-door.mjs). By AI agents, Wed Nov 11 2026. No macro, syntax, notation, axiom, sorry.
-/
import Derived.Test.YtdkpflojdnkbnaaGreatDoorRows
import GoSem.ClaimSeven
namespace Go.Proofs.YtdkpflojdnkbnaaGreatDoor
namespace Rows

/-- THE TIED CARD OF 'gameplayerlaw08.NormalCompares'. -/
def normalComparesCard : Claim7 := { stood := { row := normalComparesRow, standIns := [], harness := (true, "2e223e77c2555cbbc4abc0ad5c93ae4ad9ffde2548749f0ae5faf6f432a02203"), looks := false }, kinds := [], alts := [], laidByText := true, laidKinds := [.data, .data, .data, .data], laidTests := true, laidLooks := .later }
def NormalComparesCardSaid : Prop := Claim7.holds Tryz.pinned (.plain (OpenSpec.ofChange normalComparesSpec)) normalComparesCard

/-- THE TIED CARD OF 'gameplayerlaw08.NormalRules'. -/
def normalRulesCard : Claim7 := { stood := { row := normalRulesRow, standIns := [], harness := (true, "2e223e77c2555cbbc4abc0ad5c93ae4ad9ffde2548749f0ae5faf6f432a02203"), looks := false }, kinds := [], alts := [], laidByText := true, laidKinds := [.data, .data, .data, .data], laidTests := true, laidLooks := .later }
def NormalRulesCardSaid : Prop := Claim7.holds Tryz.pinned (.plain (OpenSpec.ofChange normalRulesSpec)) normalRulesCard

/-- THE TIED CARD OF 'gameplayerlaw08.NormalLists'. -/
def normalListsCard : Claim7 := { stood := { row := normalListsRow, standIns := [], harness := (true, "2e223e77c2555cbbc4abc0ad5c93ae4ad9ffde2548749f0ae5faf6f432a02203"), looks := false }, kinds := [], alts := [], laidByText := true, laidKinds := [.data, .data, .data, .data], laidTests := true, laidLooks := .later }
def NormalListsCardSaid : Prop := Claim7.holds Tryz.pinned (.plain (OpenSpec.ofChange normalListsSpec)) normalListsCard

/-- THE TIED CARD OF 'gameplayerlaw08.NormalTwice'. -/
def normalTwiceCard : Claim7 := { stood := { row := normalTwiceRow, standIns := [], harness := (true, "2e223e77c2555cbbc4abc0ad5c93ae4ad9ffde2548749f0ae5faf6f432a02203"), looks := false }, kinds := [], alts := [], laidByText := true, laidKinds := [.data, .data, .data, .data], laidTests := true, laidLooks := .later }
def NormalTwiceCardSaid : Prop := Claim7.holds Tryz.pinned (.plain (OpenSpec.ofChange normalTwiceSpec)) normalTwiceCard

/-- THE TIED CARD OF 'gameplayerlaw08.NormalRenamed'. -/
def normalRenamedCard : Claim7 := { stood := { row := normalRenamedRow, standIns := [], harness := (true, "2e223e77c2555cbbc4abc0ad5c93ae4ad9ffde2548749f0ae5faf6f432a02203"), looks := false }, kinds := [], alts := [], laidByText := true, laidKinds := [.data, .data, .data, .data], laidTests := true, laidLooks := .later }
def NormalRenamedCardSaid : Prop := Claim7.holds Tryz.pinned (.plain (OpenSpec.ofChange normalRenamedSpec)) normalRenamedCard

/-- THE TIED CARD OF 'gameplayerlaw08.NormalOrder'. -/
def normalOrderCard : Claim7 := { stood := { row := normalOrderRow, standIns := [], harness := (true, "2e223e77c2555cbbc4abc0ad5c93ae4ad9ffde2548749f0ae5faf6f432a02203"), looks := false }, kinds := [], alts := [], laidByText := true, laidKinds := [.data, .data, .data, .data], laidTests := true, laidLooks := .later }
def NormalOrderCardSaid : Prop := Claim7.holds Tryz.pinned (.plain (OpenSpec.ofChange normalOrderSpec)) normalOrderCard

/-- THE TIED CARD OF 'gameplayerlaw08.NormalTurned'. -/
def normalTurnedCard : Claim7 := { stood := { row := normalTurnedRow, standIns := [], harness := (true, "2e223e77c2555cbbc4abc0ad5c93ae4ad9ffde2548749f0ae5faf6f432a02203"), looks := false }, kinds := [], alts := [], laidByText := true, laidKinds := [.data, .data, .data, .data], laidTests := true, laidLooks := .later }
def NormalTurnedCardSaid : Prop := Claim7.holds Tryz.pinned (.plain (OpenSpec.ofChange normalTurnedSpec)) normalTurnedCard

/-- THE SECOND FORM's CARD OF 'gameplayerlaw08.NormalCompares'. -/
def normalComparesUptoCard : Claim7 := { stood := { row := normalComparesUptoRow, standIns := [], harness := (true, "2e223e77c2555cbbc4abc0ad5c93ae4ad9ffde2548749f0ae5faf6f432a02203"), looks := false }, kinds := [], alts := [], laidByText := true, laidKinds := [.data, .data, .data, .data], laidTests := true, laidLooks := .later }
def NormalComparesUptoCardSaid : Prop := Claim7.holds Tryz.pinned (.plain (OpenSpec.upto normalComparesSpec)) normalComparesUptoCard

/-- THE SECOND FORM's CARD OF 'gameplayerlaw08.NormalRules'. -/
def normalRulesUptoCard : Claim7 := { stood := { row := normalRulesUptoRow, standIns := [], harness := (true, "2e223e77c2555cbbc4abc0ad5c93ae4ad9ffde2548749f0ae5faf6f432a02203"), looks := false }, kinds := [], alts := [], laidByText := true, laidKinds := [.data, .data, .data, .data], laidTests := true, laidLooks := .later }
def NormalRulesUptoCardSaid : Prop := Claim7.holds Tryz.pinned (.plain (OpenSpec.upto normalRulesSpec)) normalRulesUptoCard

/-- THE SECOND FORM's CARD OF 'gameplayerlaw08.NormalLists'. -/
def normalListsUptoCard : Claim7 := { stood := { row := normalListsUptoRow, standIns := [], harness := (true, "2e223e77c2555cbbc4abc0ad5c93ae4ad9ffde2548749f0ae5faf6f432a02203"), looks := false }, kinds := [], alts := [], laidByText := true, laidKinds := [.data, .data, .data, .data], laidTests := true, laidLooks := .later }
def NormalListsUptoCardSaid : Prop := Claim7.holds Tryz.pinned (.plain (OpenSpec.upto normalListsSpec)) normalListsUptoCard

/-- THE SECOND FORM's CARD OF 'gameplayerlaw08.NormalTwice'. -/
def normalTwiceUptoCard : Claim7 := { stood := { row := normalTwiceUptoRow, standIns := [], harness := (true, "2e223e77c2555cbbc4abc0ad5c93ae4ad9ffde2548749f0ae5faf6f432a02203"), looks := false }, kinds := [], alts := [], laidByText := true, laidKinds := [.data, .data, .data, .data], laidTests := true, laidLooks := .later }
def NormalTwiceUptoCardSaid : Prop := Claim7.holds Tryz.pinned (.plain (OpenSpec.upto normalTwiceSpec)) normalTwiceUptoCard

/-- THE SECOND FORM's CARD OF 'gameplayerlaw08.NormalRenamed'. -/
def normalRenamedUptoCard : Claim7 := { stood := { row := normalRenamedUptoRow, standIns := [], harness := (true, "2e223e77c2555cbbc4abc0ad5c93ae4ad9ffde2548749f0ae5faf6f432a02203"), looks := false }, kinds := [], alts := [], laidByText := true, laidKinds := [.data, .data, .data, .data], laidTests := true, laidLooks := .later }
def NormalRenamedUptoCardSaid : Prop := Claim7.holds Tryz.pinned (.plain (OpenSpec.upto normalRenamedSpec)) normalRenamedUptoCard

/-- THE SECOND FORM's CARD OF 'gameplayerlaw08.NormalOrder'. -/
def normalOrderUptoCard : Claim7 := { stood := { row := normalOrderUptoRow, standIns := [], harness := (true, "2e223e77c2555cbbc4abc0ad5c93ae4ad9ffde2548749f0ae5faf6f432a02203"), looks := false }, kinds := [], alts := [], laidByText := true, laidKinds := [.data, .data, .data, .data], laidTests := true, laidLooks := .later }
def NormalOrderUptoCardSaid : Prop := Claim7.holds Tryz.pinned (.plain (OpenSpec.upto normalOrderSpec)) normalOrderUptoCard

/-- THE SECOND FORM's CARD OF 'gameplayerlaw08.NormalTurned'. -/
def normalTurnedUptoCard : Claim7 := { stood := { row := normalTurnedUptoRow, standIns := [], harness := (true, "2e223e77c2555cbbc4abc0ad5c93ae4ad9ffde2548749f0ae5faf6f432a02203"), looks := false }, kinds := [], alts := [], laidByText := true, laidKinds := [.data, .data, .data, .data], laidTests := true, laidLooks := .later }
def NormalTurnedUptoCardSaid : Prop := Claim7.holds Tryz.pinned (.plain (OpenSpec.upto normalTurnedSpec)) normalTurnedUptoCard
end Rows
end Go.Proofs.YtdkpflojdnkbnaaGreatDoor
