/-
  DERIVED. GIVEN WITH THE SEED: THE CARDS: each row of YtdalepdpobcpaaaDoorRows.lean that lists a variable, with what it lists TIED to the program's text (the seventh form; the later family's looks); each row that meets fmt, with fmt's text TOLD by the authors' own Lean function (tested against real Go, not proved from fmt's source: count such statements apart). THE CARD IS WHAT COUNTS. Prove the row's statement (the work); the ties are given (YtdalepdpobcpaaaDoorTie.lean); close each card by the builder's one call (the guide's Derived/Test/ToyasCard.lean, 'card_holds'). Laid BY PROGRAM, IN A SANDBOX (cutbox-door.mjs). By AI agents, Wed Nov 11 2026. No macro, syntax, notation, axiom, sorry.
-/
import Derived.Test.YtdalepdpobcpaaaDoorRows
import GoSem.ClaimSeven
namespace Go.Proofs.YtdalepdpobcpaaaDoor
namespace Rows

/-- THE TIED CARD OF 'gameplayerlaw05.ParserParses'. -/
def parserParsesCard : Claim7 := { stood := { row := parserParsesRow, standIns := [], harness := (true, "9b56905f6fb8d803ade68aaca34a5807c1dd36e9fd6ba520c194a9467526606c"), looks := true }, kinds := [], alts := [], laidByText := true, laidKinds := [.data], laidTests := true, laidLooks := .later }
def ParserParsesCardSaid : Prop := Claim7.holds Tryd.pinned (.plain (OpenSpec.ofChange parserParsesSpec)) parserParsesCard

/-- THE TIED CARD OF 'gameplayerlaw05.ParserRules'. -/
def parserRulesCard : Claim7 := { stood := { row := parserRulesRow, standIns := [], harness := (true, "9b56905f6fb8d803ade68aaca34a5807c1dd36e9fd6ba520c194a9467526606c"), looks := true }, kinds := [], alts := [], laidByText := true, laidKinds := [.data], laidTests := true, laidLooks := .later }
def ParserRulesCardSaid : Prop := Claim7.holds Tryd.pinned (.plain (OpenSpec.ofChange parserRulesSpec)) parserRulesCard

/-- THE TIED CARD OF 'gameplayerlaw05.ParserTerms'. -/
def parserTermsCard : Claim7 := { stood := { row := parserTermsRow, standIns := [], harness := (true, "9b56905f6fb8d803ade68aaca34a5807c1dd36e9fd6ba520c194a9467526606c"), looks := true }, kinds := [], alts := [], laidByText := true, laidKinds := [.data], laidTests := true, laidLooks := .later }
def ParserTermsCardSaid : Prop := Claim7.holds Tryd.pinned (.plain (OpenSpec.ofChange parserTermsSpec)) parserTermsCard

/-- THE TIED CARD OF 'gameplayerlaw05.ParserValid'. -/
def parserValidCard : Claim7 := { stood := { row := parserValidRow, standIns := [], harness := (true, "9b56905f6fb8d803ade68aaca34a5807c1dd36e9fd6ba520c194a9467526606c"), looks := true }, kinds := [], alts := [], laidByText := true, laidKinds := [.data], laidTests := true, laidLooks := .later }
def ParserValidCardSaid : Prop := Claim7.holds Tryd.pinned (.plain (OpenSpec.ofChange parserValidSpec)) parserValidCard

/-- THE TIED CARD OF 'gameplayerlaw05.ParserLines'. -/
def parserLinesCard : Claim7 := { stood := { row := parserLinesRow, standIns := [], harness := (true, "9b56905f6fb8d803ade68aaca34a5807c1dd36e9fd6ba520c194a9467526606c"), looks := true }, kinds := [], alts := [], laidByText := true, laidKinds := [.data], laidTests := true, laidLooks := .later }
def ParserLinesCardSaid : Prop := Claim7.holds Tryd.pinned (.plain (OpenSpec.ofChange parserLinesSpec)) parserLinesCard

/-- THE TIED CARD OF 'gameplayerlaw05.ParserOne'. -/
def parserOneCard : Claim7 := { stood := { row := parserOneRow, standIns := [], harness := (true, "9b56905f6fb8d803ade68aaca34a5807c1dd36e9fd6ba520c194a9467526606c"), looks := true }, kinds := [], alts := [], laidByText := true, laidKinds := [.data], laidTests := true, laidLooks := .later }
def ParserOneCardSaid : Prop := Claim7.holds Tryd.pinned (.plain (OpenSpec.ofChange parserOneSpec)) parserOneCard

/-- THE TIED CARD OF 'gameplayerlaw05.ParserNests'. -/
def parserNestsCard : Claim7 := { stood := { row := parserNestsRow, standIns := [], harness := (true, "9b56905f6fb8d803ade68aaca34a5807c1dd36e9fd6ba520c194a9467526606c"), looks := true }, kinds := [], alts := [], laidByText := true, laidKinds := [.data], laidTests := true, laidLooks := .later }
def ParserNestsCardSaid : Prop := Claim7.holds Tryd.pinned (.plain (OpenSpec.ofChange parserNestsSpec)) parserNestsCard

/-- THE TIED CARD OF 'gameplayerlaw05.ParserLimits'. -/
def parserLimitsCard : Claim7 := { stood := { row := parserLimitsRow, standIns := [], harness := (true, "9b56905f6fb8d803ade68aaca34a5807c1dd36e9fd6ba520c194a9467526606c"), looks := true }, kinds := [], alts := [], laidByText := true, laidKinds := [.data], laidTests := true, laidLooks := .later }
def ParserLimitsCardSaid : Prop := Claim7.holds Tryd.pinned (.plain (OpenSpec.ofChange parserLimitsSpec)) parserLimitsCard

/-- THE SECOND FORM's CARD OF 'gameplayerlaw05.ParserParses'. -/
def parserParsesUptoCard : Claim7 := { stood := { row := parserParsesUptoRow, standIns := [], harness := (true, "9b56905f6fb8d803ade68aaca34a5807c1dd36e9fd6ba520c194a9467526606c"), looks := true }, kinds := [], alts := [], laidByText := true, laidKinds := [.data], laidTests := true, laidLooks := .later }
def ParserParsesUptoCardSaid : Prop := Claim7.holds Tryd.pinned (.plain (OpenSpec.upto parserParsesSpec)) parserParsesUptoCard

/-- THE SECOND FORM's CARD OF 'gameplayerlaw05.ParserRules'. -/
def parserRulesUptoCard : Claim7 := { stood := { row := parserRulesUptoRow, standIns := [], harness := (true, "9b56905f6fb8d803ade68aaca34a5807c1dd36e9fd6ba520c194a9467526606c"), looks := true }, kinds := [], alts := [], laidByText := true, laidKinds := [.data], laidTests := true, laidLooks := .later }
def ParserRulesUptoCardSaid : Prop := Claim7.holds Tryd.pinned (.plain (OpenSpec.upto parserRulesSpec)) parserRulesUptoCard

/-- THE SECOND FORM's CARD OF 'gameplayerlaw05.ParserTerms'. -/
def parserTermsUptoCard : Claim7 := { stood := { row := parserTermsUptoRow, standIns := [], harness := (true, "9b56905f6fb8d803ade68aaca34a5807c1dd36e9fd6ba520c194a9467526606c"), looks := true }, kinds := [], alts := [], laidByText := true, laidKinds := [.data], laidTests := true, laidLooks := .later }
def ParserTermsUptoCardSaid : Prop := Claim7.holds Tryd.pinned (.plain (OpenSpec.upto parserTermsSpec)) parserTermsUptoCard

/-- THE SECOND FORM's CARD OF 'gameplayerlaw05.ParserValid'. -/
def parserValidUptoCard : Claim7 := { stood := { row := parserValidUptoRow, standIns := [], harness := (true, "9b56905f6fb8d803ade68aaca34a5807c1dd36e9fd6ba520c194a9467526606c"), looks := true }, kinds := [], alts := [], laidByText := true, laidKinds := [.data], laidTests := true, laidLooks := .later }
def ParserValidUptoCardSaid : Prop := Claim7.holds Tryd.pinned (.plain (OpenSpec.upto parserValidSpec)) parserValidUptoCard

/-- THE SECOND FORM's CARD OF 'gameplayerlaw05.ParserLines'. -/
def parserLinesUptoCard : Claim7 := { stood := { row := parserLinesUptoRow, standIns := [], harness := (true, "9b56905f6fb8d803ade68aaca34a5807c1dd36e9fd6ba520c194a9467526606c"), looks := true }, kinds := [], alts := [], laidByText := true, laidKinds := [.data], laidTests := true, laidLooks := .later }
def ParserLinesUptoCardSaid : Prop := Claim7.holds Tryd.pinned (.plain (OpenSpec.upto parserLinesSpec)) parserLinesUptoCard

/-- THE SECOND FORM's CARD OF 'gameplayerlaw05.ParserOne'. -/
def parserOneUptoCard : Claim7 := { stood := { row := parserOneUptoRow, standIns := [], harness := (true, "9b56905f6fb8d803ade68aaca34a5807c1dd36e9fd6ba520c194a9467526606c"), looks := true }, kinds := [], alts := [], laidByText := true, laidKinds := [.data], laidTests := true, laidLooks := .later }
def ParserOneUptoCardSaid : Prop := Claim7.holds Tryd.pinned (.plain (OpenSpec.upto parserOneSpec)) parserOneUptoCard

/-- THE SECOND FORM's CARD OF 'gameplayerlaw05.ParserNests'. -/
def parserNestsUptoCard : Claim7 := { stood := { row := parserNestsUptoRow, standIns := [], harness := (true, "9b56905f6fb8d803ade68aaca34a5807c1dd36e9fd6ba520c194a9467526606c"), looks := true }, kinds := [], alts := [], laidByText := true, laidKinds := [.data], laidTests := true, laidLooks := .later }
def ParserNestsUptoCardSaid : Prop := Claim7.holds Tryd.pinned (.plain (OpenSpec.upto parserNestsSpec)) parserNestsUptoCard

/-- THE SECOND FORM's CARD OF 'gameplayerlaw05.ParserLimits'. -/
def parserLimitsUptoCard : Claim7 := { stood := { row := parserLimitsUptoRow, standIns := [], harness := (true, "9b56905f6fb8d803ade68aaca34a5807c1dd36e9fd6ba520c194a9467526606c"), looks := true }, kinds := [], alts := [], laidByText := true, laidKinds := [.data], laidTests := true, laidLooks := .later }
def ParserLimitsUptoCardSaid : Prop := Claim7.holds Tryd.pinned (.plain (OpenSpec.upto parserLimitsSpec)) parserLimitsUptoCard
end Rows
end Go.Proofs.YtdalepdpobcpaaaDoor
