/-
  NARROWER THAN 'FOR EVERY INPUT', by the rows' own cells (each row's printed sentence says how): ParserParses: laid · ParserRules: laid · ParserTerms: laid · ParserValid: laid · ParserLines: laid · ParserOne: laid · ParserNests: laid · ParserLimits: laid.
  DERIVED. THE GIVEN ROWS OF THIS SEAT. 8 by the template 'for every input the law returns true; each argument reads behind the call as it read before'; 0 by the template 'total and deterministic' (their statements: YtdalepdpobcpaaaDoorTotals.lean).
  GIVEN WITH THE SEED: the statements are not yours to turn. If you find one false, say at which input.
  Laid BY PROGRAM, IN A SANDBOX (cutbox-rows.mjs): the forced cells as the released guide's own fill.sh prints them over the translation 8da9edc1576b77c4… (all of the seat's roots in one cut). By AI agents, Wed Nov 11 2026. No macro, syntax, notation, axiom, sorry.
-/
import Derived.Test.YtdalepdpobcpaaaDoorChecked
import GoSem.Claim
import GoSem.ClaimJoined
import GoSem.ClaimMapViews
import Derived.JoinedTies
import Derived.KernelRfl
namespace Go.Proofs.YtdalepdpobcpaaaDoor
/- THE CELL 'sum', in the pinned program and in every row, IS THE sha256 OF THE DUMP (.gsa) THAT YtdalepdpobcpaaaDoorProg.lean LOADS. Nothing in Lean hashes anything: it is a label: what it is worth is what the hold of that sum in a sandbox is worth. -/
noncomputable def Tryd.pinned : Pinned := { name := "ytdalepdpobcpaaadoor", sum := "8da9edc1576b77c498d663a9475443c44dc670f969ccc0f02f21945c9f113e33", checked := Tryd.checked }
namespace Rows
def none {H : Type} : Left H := { results := [], args := [] }

/- WHAT THE LISTED PACKAGE-LEVEL VARIABLES READ AS WHEN THE CALL BEGINS. Each datum BY PROGRAM (the guide's laid-datum.mjs) off the statement by which the dump's own 'gosem.cut.vars' lays the variable. In a bare row this is a premise. The card (YtdalepdpobcpaaaDoorCards.lean) ties it to the program's text. -/
def laid_gameplayer_lexer_words {H : Type} : DataW H := .agg [.lit (.string [105, 102]), .lit (.string [97, 110, 100]), .lit (.string [110, 111, 116])]

/-- 'gameplayerlaw05.ParserParses': WHATEVER THE INPUT: true; the input reads as it did. -/
def parserParsesSpec : ChangeSpec := { name := "parserParses", fn := fun _ => fun
  | [d] => { results := [.lit (.bool true)], args := [d] }
  | _ => none }
def parserParsesRow : OpenClaim := { program := "ytdalepdpobcpaaadoor", sum := "8da9edc1576b77c498d663a9475443c44dc670f969ccc0f02f21945c9f113e33", func := "gameplayer/gameplayerlaw05.ParserParses", spec := "parserParses", unfollowed := true, recurses := true, named := ["gameplayer/lexer.words"], apart := false, laid := [("gameplayer/lexer.words", laid_gameplayer_lexer_words)] }
def ParserParsesSaid : Prop := parserParsesRow.holds Tryd.pinned (OpenSpec.ofChange parserParsesSpec)

/-- ITS FALSE NEIGHBOUR: 'it returns false'. Refute it at one input. -/
def parserParsesWrong : ChangeSpec := { name := "parserParses", fn := fun _ => fun
  | [d] => { results := [.lit (.bool false)], args := [d] }
  | _ => none }
def ParserParsesWrongFalsely : Prop := parserParsesRow.holds Tryd.pinned (OpenSpec.ofChange parserParsesWrong)

/-- 'gameplayerlaw05.ParserRules': WHATEVER THE INPUT: true; the input reads as it did. -/
def parserRulesSpec : ChangeSpec := { name := "parserRules", fn := fun _ => fun
  | [d] => { results := [.lit (.bool true)], args := [d] }
  | _ => none }
def parserRulesRow : OpenClaim := { program := "ytdalepdpobcpaaadoor", sum := "8da9edc1576b77c498d663a9475443c44dc670f969ccc0f02f21945c9f113e33", func := "gameplayer/gameplayerlaw05.ParserRules", spec := "parserRules", unfollowed := true, recurses := true, named := ["gameplayer/lexer.words"], apart := false, laid := [("gameplayer/lexer.words", laid_gameplayer_lexer_words)] }
def ParserRulesSaid : Prop := parserRulesRow.holds Tryd.pinned (OpenSpec.ofChange parserRulesSpec)

/-- ITS FALSE NEIGHBOUR: 'it returns false'. Refute it at one input. -/
def parserRulesWrong : ChangeSpec := { name := "parserRules", fn := fun _ => fun
  | [d] => { results := [.lit (.bool false)], args := [d] }
  | _ => none }
def ParserRulesWrongFalsely : Prop := parserRulesRow.holds Tryd.pinned (OpenSpec.ofChange parserRulesWrong)

/-- 'gameplayerlaw05.ParserTerms': WHATEVER THE INPUT: true; the input reads as it did. -/
def parserTermsSpec : ChangeSpec := { name := "parserTerms", fn := fun _ => fun
  | [d] => { results := [.lit (.bool true)], args := [d] }
  | _ => none }
def parserTermsRow : OpenClaim := { program := "ytdalepdpobcpaaadoor", sum := "8da9edc1576b77c498d663a9475443c44dc670f969ccc0f02f21945c9f113e33", func := "gameplayer/gameplayerlaw05.ParserTerms", spec := "parserTerms", unfollowed := true, recurses := true, named := ["gameplayer/lexer.words"], apart := false, laid := [("gameplayer/lexer.words", laid_gameplayer_lexer_words)] }
def ParserTermsSaid : Prop := parserTermsRow.holds Tryd.pinned (OpenSpec.ofChange parserTermsSpec)

/-- ITS FALSE NEIGHBOUR: 'it returns false'. Refute it at one input. -/
def parserTermsWrong : ChangeSpec := { name := "parserTerms", fn := fun _ => fun
  | [d] => { results := [.lit (.bool false)], args := [d] }
  | _ => none }
def ParserTermsWrongFalsely : Prop := parserTermsRow.holds Tryd.pinned (OpenSpec.ofChange parserTermsWrong)

/-- 'gameplayerlaw05.ParserValid': WHATEVER THE INPUT: true; the input reads as it did. -/
def parserValidSpec : ChangeSpec := { name := "parserValid", fn := fun _ => fun
  | [d] => { results := [.lit (.bool true)], args := [d] }
  | _ => none }
def parserValidRow : OpenClaim := { program := "ytdalepdpobcpaaadoor", sum := "8da9edc1576b77c498d663a9475443c44dc670f969ccc0f02f21945c9f113e33", func := "gameplayer/gameplayerlaw05.ParserValid", spec := "parserValid", unfollowed := true, recurses := true, named := ["gameplayer/lexer.words"], apart := false, laid := [("gameplayer/lexer.words", laid_gameplayer_lexer_words)] }
def ParserValidSaid : Prop := parserValidRow.holds Tryd.pinned (OpenSpec.ofChange parserValidSpec)

/-- ITS FALSE NEIGHBOUR: 'it returns false'. Refute it at one input. -/
def parserValidWrong : ChangeSpec := { name := "parserValid", fn := fun _ => fun
  | [d] => { results := [.lit (.bool false)], args := [d] }
  | _ => none }
def ParserValidWrongFalsely : Prop := parserValidRow.holds Tryd.pinned (OpenSpec.ofChange parserValidWrong)

/-- 'gameplayerlaw05.ParserLines': WHATEVER THE INPUT: true; the input reads as it did. -/
def parserLinesSpec : ChangeSpec := { name := "parserLines", fn := fun _ => fun
  | [d1, d2] => { results := [.lit (.bool true)], args := [d1, d2] }
  | _ => none }
def parserLinesRow : OpenClaim := { program := "ytdalepdpobcpaaadoor", sum := "8da9edc1576b77c498d663a9475443c44dc670f969ccc0f02f21945c9f113e33", func := "gameplayer/gameplayerlaw05.ParserLines", spec := "parserLines", unfollowed := true, recurses := true, named := ["gameplayer/lexer.words"], apart := false, laid := [("gameplayer/lexer.words", laid_gameplayer_lexer_words)] }
def ParserLinesSaid : Prop := parserLinesRow.holds Tryd.pinned (OpenSpec.ofChange parserLinesSpec)

/-- ITS FALSE NEIGHBOUR: 'it returns false'. Refute it at one input. -/
def parserLinesWrong : ChangeSpec := { name := "parserLines", fn := fun _ => fun
  | [d1, d2] => { results := [.lit (.bool false)], args := [d1, d2] }
  | _ => none }
def ParserLinesWrongFalsely : Prop := parserLinesRow.holds Tryd.pinned (OpenSpec.ofChange parserLinesWrong)

/-- 'gameplayerlaw05.ParserOne': WHATEVER THE INPUT: true; the input reads as it did. -/
def parserOneSpec : ChangeSpec := { name := "parserOne", fn := fun _ => fun
  | [d] => { results := [.lit (.bool true)], args := [d] }
  | _ => none }
def parserOneRow : OpenClaim := { program := "ytdalepdpobcpaaadoor", sum := "8da9edc1576b77c498d663a9475443c44dc670f969ccc0f02f21945c9f113e33", func := "gameplayer/gameplayerlaw05.ParserOne", spec := "parserOne", unfollowed := true, recurses := true, named := ["gameplayer/lexer.words"], apart := false, laid := [("gameplayer/lexer.words", laid_gameplayer_lexer_words)] }
def ParserOneSaid : Prop := parserOneRow.holds Tryd.pinned (OpenSpec.ofChange parserOneSpec)

/-- ITS FALSE NEIGHBOUR: 'it returns false'. Refute it at one input. -/
def parserOneWrong : ChangeSpec := { name := "parserOne", fn := fun _ => fun
  | [d] => { results := [.lit (.bool false)], args := [d] }
  | _ => none }
def ParserOneWrongFalsely : Prop := parserOneRow.holds Tryd.pinned (OpenSpec.ofChange parserOneWrong)

/-- 'gameplayerlaw05.ParserNests': WHATEVER THE INPUT: true; the input reads as it did. -/
def parserNestsSpec : ChangeSpec := { name := "parserNests", fn := fun _ => fun
  | [d1, d2] => { results := [.lit (.bool true)], args := [d1, d2] }
  | _ => none }
def parserNestsRow : OpenClaim := { program := "ytdalepdpobcpaaadoor", sum := "8da9edc1576b77c498d663a9475443c44dc670f969ccc0f02f21945c9f113e33", func := "gameplayer/gameplayerlaw05.ParserNests", spec := "parserNests", unfollowed := true, recurses := true, named := ["gameplayer/lexer.words"], apart := false, laid := [("gameplayer/lexer.words", laid_gameplayer_lexer_words)] }
def ParserNestsSaid : Prop := parserNestsRow.holds Tryd.pinned (OpenSpec.ofChange parserNestsSpec)

/-- ITS FALSE NEIGHBOUR: 'it returns false'. Refute it at one input. -/
def parserNestsWrong : ChangeSpec := { name := "parserNests", fn := fun _ => fun
  | [d1, d2] => { results := [.lit (.bool false)], args := [d1, d2] }
  | _ => none }
def ParserNestsWrongFalsely : Prop := parserNestsRow.holds Tryd.pinned (OpenSpec.ofChange parserNestsWrong)

/-- 'gameplayerlaw05.ParserLimits': WHATEVER THE INPUT: true; the input reads as it did. -/
def parserLimitsSpec : ChangeSpec := { name := "parserLimits", fn := fun _ => fun
  | [d1, d2] => { results := [.lit (.bool true)], args := [d1, d2] }
  | _ => none }
def parserLimitsRow : OpenClaim := { program := "ytdalepdpobcpaaadoor", sum := "8da9edc1576b77c498d663a9475443c44dc670f969ccc0f02f21945c9f113e33", func := "gameplayer/gameplayerlaw05.ParserLimits", spec := "parserLimits", unfollowed := true, recurses := true, named := ["gameplayer/lexer.words"], apart := false, laid := [("gameplayer/lexer.words", laid_gameplayer_lexer_words)] }
def ParserLimitsSaid : Prop := parserLimitsRow.holds Tryd.pinned (OpenSpec.ofChange parserLimitsSpec)

/-- ITS FALSE NEIGHBOUR: 'it returns false'. Refute it at one input. -/
def parserLimitsWrong : ChangeSpec := { name := "parserLimits", fn := fun _ => fun
  | [d1, d2] => { results := [.lit (.bool false)], args := [d1, d2] }
  | _ => none }
def ParserLimitsWrongFalsely : Prop := parserLimitsRow.holds Tryd.pinned (OpenSpec.ofChange parserLimitsWrong)

/- THE SECOND FORM. 'bulk': how many values and letters a reading holds, each counted each time it is reached (what is shared counts as often as it is met; a slice's spare places count too). A statement '..UptoSaid' is the law's where the arguments, and the package variables that the reading takes, are together of bulk at most 1048576: NARROWER than '..Said'. Prove '..Said' where nothing that the law and all that it calls make is longer than what came in: it says more and counts as full. Else prove '..UptoSaid'. A law counts once. -/
mutual
def uptoBulk {H : Type} : DataW H → Nat
  | .lit (.string bytes) => bytes.length + 1
  | .lit _ => 1
  | .nil => 1
  | .ptr d => uptoBulk d + 1
  | .slice elems spare => uptoBulkAll elems + uptoBulkAll spare + 1
  | .agg parts => uptoBulkAll parts + 1
  | .iface _ d => uptoBulk d + 1
  | .map entries => uptoBulkEntries entries + 1
  | .held _ => 1
def uptoBulkAll {H : Type} : List (DataW H) → Nat
  | [] => 0
  | d :: r => uptoBulk d + uptoBulkAll r
def uptoBulkEntries {H : Type} : List (Lit × DataW H) → Nat
  | [] => 0
  | x :: r => uptoBulkEntry x + uptoBulkEntries r
def uptoBulkEntry {H : Type} : Lit × DataW H → Nat
  | (.string bytes, d) => bytes.length + uptoBulk d + 1
  | (_, d) => uptoBulk d + 1
 end
def uptoSmall : (H : Type) → List (DataW H) → Bool := fun _ ds => decide (uptoBulkAll ds ≤ 1048576)
def OpenSpec.upto (s : _root_.Go.ChangeSpec) : _root_.Go.OpenSpec := { _root_.Go.OpenSpec.ofChange s with cond := some uptoSmall }

/-- 'gameplayerlaw05.ParserParses', WHERE WHAT IT READS IS OF BULK AT MOST 1048576: true; the input reads as it did. -/
def parserParsesUptoRow : OpenClaim := { program := "ytdalepdpobcpaaadoor", sum := "8da9edc1576b77c498d663a9475443c44dc670f969ccc0f02f21945c9f113e33", func := "gameplayer/gameplayerlaw05.ParserParses", spec := "parserParses", unfollowed := true, recurses := true, named := ["gameplayer/lexer.words"], apart := false, laid := [("gameplayer/lexer.words", laid_gameplayer_lexer_words)], narrowed := true }
def ParserParsesUptoSaid : Prop := parserParsesUptoRow.holds Tryd.pinned (OpenSpec.upto parserParsesSpec)

/-- 'gameplayerlaw05.ParserRules', WHERE WHAT IT READS IS OF BULK AT MOST 1048576: true; the input reads as it did. -/
def parserRulesUptoRow : OpenClaim := { program := "ytdalepdpobcpaaadoor", sum := "8da9edc1576b77c498d663a9475443c44dc670f969ccc0f02f21945c9f113e33", func := "gameplayer/gameplayerlaw05.ParserRules", spec := "parserRules", unfollowed := true, recurses := true, named := ["gameplayer/lexer.words"], apart := false, laid := [("gameplayer/lexer.words", laid_gameplayer_lexer_words)], narrowed := true }
def ParserRulesUptoSaid : Prop := parserRulesUptoRow.holds Tryd.pinned (OpenSpec.upto parserRulesSpec)

/-- 'gameplayerlaw05.ParserTerms', WHERE WHAT IT READS IS OF BULK AT MOST 1048576: true; the input reads as it did. -/
def parserTermsUptoRow : OpenClaim := { program := "ytdalepdpobcpaaadoor", sum := "8da9edc1576b77c498d663a9475443c44dc670f969ccc0f02f21945c9f113e33", func := "gameplayer/gameplayerlaw05.ParserTerms", spec := "parserTerms", unfollowed := true, recurses := true, named := ["gameplayer/lexer.words"], apart := false, laid := [("gameplayer/lexer.words", laid_gameplayer_lexer_words)], narrowed := true }
def ParserTermsUptoSaid : Prop := parserTermsUptoRow.holds Tryd.pinned (OpenSpec.upto parserTermsSpec)

/-- 'gameplayerlaw05.ParserValid', WHERE WHAT IT READS IS OF BULK AT MOST 1048576: true; the input reads as it did. -/
def parserValidUptoRow : OpenClaim := { program := "ytdalepdpobcpaaadoor", sum := "8da9edc1576b77c498d663a9475443c44dc670f969ccc0f02f21945c9f113e33", func := "gameplayer/gameplayerlaw05.ParserValid", spec := "parserValid", unfollowed := true, recurses := true, named := ["gameplayer/lexer.words"], apart := false, laid := [("gameplayer/lexer.words", laid_gameplayer_lexer_words)], narrowed := true }
def ParserValidUptoSaid : Prop := parserValidUptoRow.holds Tryd.pinned (OpenSpec.upto parserValidSpec)

/-- 'gameplayerlaw05.ParserLines', WHERE WHAT IT READS IS OF BULK AT MOST 1048576: true; the input reads as it did. -/
def parserLinesUptoRow : OpenClaim := { program := "ytdalepdpobcpaaadoor", sum := "8da9edc1576b77c498d663a9475443c44dc670f969ccc0f02f21945c9f113e33", func := "gameplayer/gameplayerlaw05.ParserLines", spec := "parserLines", unfollowed := true, recurses := true, named := ["gameplayer/lexer.words"], apart := false, laid := [("gameplayer/lexer.words", laid_gameplayer_lexer_words)], narrowed := true }
def ParserLinesUptoSaid : Prop := parserLinesUptoRow.holds Tryd.pinned (OpenSpec.upto parserLinesSpec)

/-- 'gameplayerlaw05.ParserOne', WHERE WHAT IT READS IS OF BULK AT MOST 1048576: true; the input reads as it did. -/
def parserOneUptoRow : OpenClaim := { program := "ytdalepdpobcpaaadoor", sum := "8da9edc1576b77c498d663a9475443c44dc670f969ccc0f02f21945c9f113e33", func := "gameplayer/gameplayerlaw05.ParserOne", spec := "parserOne", unfollowed := true, recurses := true, named := ["gameplayer/lexer.words"], apart := false, laid := [("gameplayer/lexer.words", laid_gameplayer_lexer_words)], narrowed := true }
def ParserOneUptoSaid : Prop := parserOneUptoRow.holds Tryd.pinned (OpenSpec.upto parserOneSpec)

/-- 'gameplayerlaw05.ParserNests', WHERE WHAT IT READS IS OF BULK AT MOST 1048576: true; the input reads as it did. -/
def parserNestsUptoRow : OpenClaim := { program := "ytdalepdpobcpaaadoor", sum := "8da9edc1576b77c498d663a9475443c44dc670f969ccc0f02f21945c9f113e33", func := "gameplayer/gameplayerlaw05.ParserNests", spec := "parserNests", unfollowed := true, recurses := true, named := ["gameplayer/lexer.words"], apart := false, laid := [("gameplayer/lexer.words", laid_gameplayer_lexer_words)], narrowed := true }
def ParserNestsUptoSaid : Prop := parserNestsUptoRow.holds Tryd.pinned (OpenSpec.upto parserNestsSpec)

/-- 'gameplayerlaw05.ParserLimits', WHERE WHAT IT READS IS OF BULK AT MOST 1048576: true; the input reads as it did. -/
def parserLimitsUptoRow : OpenClaim := { program := "ytdalepdpobcpaaadoor", sum := "8da9edc1576b77c498d663a9475443c44dc670f969ccc0f02f21945c9f113e33", func := "gameplayer/gameplayerlaw05.ParserLimits", spec := "parserLimits", unfollowed := true, recurses := true, named := ["gameplayer/lexer.words"], apart := false, laid := [("gameplayer/lexer.words", laid_gameplayer_lexer_words)], narrowed := true }
def ParserLimitsUptoSaid : Prop := parserLimitsUptoRow.holds Tryd.pinned (OpenSpec.upto parserLimitsSpec)

end Rows
end Go.Proofs.YtdalepdpobcpaaaDoor
