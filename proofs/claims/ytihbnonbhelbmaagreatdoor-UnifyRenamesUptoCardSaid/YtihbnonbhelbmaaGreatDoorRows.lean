/-
  NARROWER THAN 'FOR EVERY INPUT', by the rows' own cells (each row's printed sentence says how): UnifyValid: loops, laid · UnifyApplies: loops, laid · UnifyMatches: loops, laid · UnifyUnifies: loops, laid · UnifyComposes: loops, laid · UnifyRenames: loops, laid · UnifyMost: loops, laid · UnifyInstances: loops, laid · UnifyComposition: loops, laid.
  DERIVED. THE GIVEN ROWS OF THIS SEAT. 9 by the template 'for every input the law returns true; each argument reads behind the call as it read before'; 0 by the template 'total and deterministic' (their statements: YtihbnonbhelbmaaGreatDoorTotals.lean).
  GIVEN WITH THE SEED: the statements are not yours to turn. If you find one false, say at which input.
  Laid BY PROGRAM, IN A SANDBOX (cutbox-rows.mjs): the forced cells as the released guide's own fill.sh prints them over the translation 32128a574a1d8fdf… (all of the seat's roots in one cut). By AI agents, Wed Nov 11 2026. No macro, syntax, notation, axiom, sorry.
-/
import Derived.Test.YtihbnonbhelbmaaGreatDoorChecked
import GoSem.Claim
import GoSem.ClaimJoined
import GoSem.ClaimMapViews
import Derived.JoinedTies
import Derived.KernelRfl
namespace Go.Proofs.YtihbnonbhelbmaaGreatDoor
/- THE CELL 'sum', in the pinned program and in every row, IS THE sha256 OF THE DUMP (.gsa) THAT YtihbnonbhelbmaaGreatDoorProg.lean LOADS. Nothing in Lean hashes anything: it is a label: what it is worth is what the hold of that sum in a sandbox is worth. -/
noncomputable def Tryz.pinned : Pinned := { name := "ytihbnonbhelbmaagreatdoor", sum := "32128a574a1d8fdf47c2e627777777143b59a8e1fe879f9c76a3ff58bd26d988", checked := Tryz.checked }
namespace Rows
def none {H : Type} : Left H := { results := [], args := [] }

/- WHAT THE LISTED PACKAGE-LEVEL VARIABLES READ AS WHEN THE CALL BEGINS. Each datum BY PROGRAM (the guide's laid-datum.mjs) off the statement by which the dump's own 'gosem.cut.vars' lays the variable. In a bare row this is a premise. The card (YtihbnonbhelbmaaGreatDoorCards.lean) ties it to the program's text. -/
def laid_math_bits_deBruijn32tab {H : Type} : DataW H := .agg [.lit (.int .u8 0), .lit (.int .u8 1), .lit (.int .u8 28), .lit (.int .u8 2), .lit (.int .u8 29), .lit (.int .u8 14), .lit (.int .u8 24), .lit (.int .u8 3), .lit (.int .u8 30), .lit (.int .u8 22), .lit (.int .u8 20), .lit (.int .u8 15), .lit (.int .u8 25), .lit (.int .u8 17), .lit (.int .u8 4), .lit (.int .u8 8), .lit (.int .u8 31), .lit (.int .u8 27), .lit (.int .u8 13), .lit (.int .u8 23), .lit (.int .u8 21), .lit (.int .u8 19), .lit (.int .u8 16), .lit (.int .u8 7), .lit (.int .u8 26), .lit (.int .u8 12), .lit (.int .u8 18), .lit (.int .u8 6), .lit (.int .u8 11), .lit (.int .u8 5), .lit (.int .u8 10), .lit (.int .u8 9)]
def laid_math_bits_deBruijn64tab {H : Type} : DataW H := .agg [.lit (.int .u8 0), .lit (.int .u8 1), .lit (.int .u8 56), .lit (.int .u8 2), .lit (.int .u8 57), .lit (.int .u8 49), .lit (.int .u8 28), .lit (.int .u8 3), .lit (.int .u8 61), .lit (.int .u8 58), .lit (.int .u8 42), .lit (.int .u8 50), .lit (.int .u8 38), .lit (.int .u8 29), .lit (.int .u8 17), .lit (.int .u8 4), .lit (.int .u8 62), .lit (.int .u8 47), .lit (.int .u8 59), .lit (.int .u8 36), .lit (.int .u8 45), .lit (.int .u8 43), .lit (.int .u8 51), .lit (.int .u8 22), .lit (.int .u8 53), .lit (.int .u8 39), .lit (.int .u8 33), .lit (.int .u8 30), .lit (.int .u8 24), .lit (.int .u8 18), .lit (.int .u8 12), .lit (.int .u8 5), .lit (.int .u8 63), .lit (.int .u8 55), .lit (.int .u8 48), .lit (.int .u8 27), .lit (.int .u8 60), .lit (.int .u8 41), .lit (.int .u8 37), .lit (.int .u8 16), .lit (.int .u8 46), .lit (.int .u8 35), .lit (.int .u8 44), .lit (.int .u8 21), .lit (.int .u8 52), .lit (.int .u8 32), .lit (.int .u8 23), .lit (.int .u8 11), .lit (.int .u8 54), .lit (.int .u8 26), .lit (.int .u8 40), .lit (.int .u8 15), .lit (.int .u8 34), .lit (.int .u8 20), .lit (.int .u8 31), .lit (.int .u8 10), .lit (.int .u8 25), .lit (.int .u8 14), .lit (.int .u8 19), .lit (.int .u8 9), .lit (.int .u8 13), .lit (.int .u8 8), .lit (.int .u8 7), .lit (.int .u8 6)]
def laid_internal_strconv_uint64pow10 {H : Type} : DataW H := .agg [.lit (.int .u64 1), .lit (.int .u64 10), .lit (.int .u64 100), .lit (.int .u64 1000), .lit (.int .u64 10000), .lit (.int .u64 100000), .lit (.int .u64 1000000), .lit (.int .u64 10000000), .lit (.int .u64 100000000), .lit (.int .u64 1000000000), .lit (.int .u64 10000000000), .lit (.int .u64 100000000000), .lit (.int .u64 1000000000000), .lit (.int .u64 10000000000000), .lit (.int .u64 100000000000000), .lit (.int .u64 1000000000000000), .lit (.int .u64 10000000000000000), .lit (.int .u64 100000000000000000), .lit (.int .u64 1000000000000000000), .lit (.int .u64 10000000000000000000)]
def laid_gameplayer_term_nameEnds {H : Type} : DataW H := .agg [.lit (.int .u8 40), .lit (.int .u8 44), .lit (.int .u8 41)]

/-- 'gameplayerlaw07.UnifyValid': WHATEVER THE INPUT: true; the input reads as it did. -/
def unifyValidSpec : ChangeSpec := { name := "unifyValid", fn := fun _ => fun
  | [d1, d2] => { results := [.lit (.bool true)], args := [d1, d2] }
  | _ => none }
def unifyValidRow : OpenClaim := { program := "ytihbnonbhelbmaagreatdoor", sum := "32128a574a1d8fdf47c2e627777777143b59a8e1fe879f9c76a3ff58bd26d988", func := "gameplayer/gameplayerlaw07.UnifyValid", spec := "unifyValid", inPlace := ["slices.overlaps[gameplayer/api.Binding]"], unfollowed := true, recurses := true, named := ["gameplayer/term.nameEnds", "internal/strconv.uint64pow10", "math/bits.deBruijn32tab", "math/bits.deBruijn64tab"], loops := true, apart := false, laid := [("math/bits.deBruijn32tab", laid_math_bits_deBruijn32tab), ("math/bits.deBruijn64tab", laid_math_bits_deBruijn64tab), ("internal/strconv.uint64pow10", laid_internal_strconv_uint64pow10), ("gameplayer/term.nameEnds", laid_gameplayer_term_nameEnds)] }
def UnifyValidSaid : Prop := unifyValidRow.holds Tryz.pinned (OpenSpec.ofChange unifyValidSpec)

/-- ITS FALSE NEIGHBOUR: 'it returns false'. Refute it at one input. -/
def unifyValidWrong : ChangeSpec := { name := "unifyValid", fn := fun _ => fun
  | [d1, d2] => { results := [.lit (.bool false)], args := [d1, d2] }
  | _ => none }
def UnifyValidWrongFalsely : Prop := unifyValidRow.holds Tryz.pinned (OpenSpec.ofChange unifyValidWrong)

/-- 'gameplayerlaw07.UnifyApplies': WHATEVER THE INPUT: true; the input reads as it did. -/
def unifyAppliesSpec : ChangeSpec := { name := "unifyApplies", fn := fun _ => fun
  | [d1, d2] => { results := [.lit (.bool true)], args := [d1, d2] }
  | _ => none }
def unifyAppliesRow : OpenClaim := { program := "ytihbnonbhelbmaagreatdoor", sum := "32128a574a1d8fdf47c2e627777777143b59a8e1fe879f9c76a3ff58bd26d988", func := "gameplayer/gameplayerlaw07.UnifyApplies", spec := "unifyApplies", inPlace := ["slices.overlaps[gameplayer/api.Binding]"], unfollowed := true, recurses := true, named := ["gameplayer/term.nameEnds", "internal/strconv.uint64pow10", "math/bits.deBruijn32tab", "math/bits.deBruijn64tab"], loops := true, apart := false, laid := [("math/bits.deBruijn32tab", laid_math_bits_deBruijn32tab), ("math/bits.deBruijn64tab", laid_math_bits_deBruijn64tab), ("internal/strconv.uint64pow10", laid_internal_strconv_uint64pow10), ("gameplayer/term.nameEnds", laid_gameplayer_term_nameEnds)] }
def UnifyAppliesSaid : Prop := unifyAppliesRow.holds Tryz.pinned (OpenSpec.ofChange unifyAppliesSpec)

/-- ITS FALSE NEIGHBOUR: 'it returns false'. Refute it at one input. -/
def unifyAppliesWrong : ChangeSpec := { name := "unifyApplies", fn := fun _ => fun
  | [d1, d2] => { results := [.lit (.bool false)], args := [d1, d2] }
  | _ => none }
def UnifyAppliesWrongFalsely : Prop := unifyAppliesRow.holds Tryz.pinned (OpenSpec.ofChange unifyAppliesWrong)

/-- 'gameplayerlaw07.UnifyMatches': WHATEVER THE INPUT: true; the input reads as it did. -/
def unifyMatchesSpec : ChangeSpec := { name := "unifyMatches", fn := fun _ => fun
  | [d1, d2, d3] => { results := [.lit (.bool true)], args := [d1, d2, d3] }
  | _ => none }
def unifyMatchesRow : OpenClaim := { program := "ytihbnonbhelbmaagreatdoor", sum := "32128a574a1d8fdf47c2e627777777143b59a8e1fe879f9c76a3ff58bd26d988", func := "gameplayer/gameplayerlaw07.UnifyMatches", spec := "unifyMatches", inPlace := ["slices.overlaps[gameplayer/api.Binding]"], unfollowed := true, recurses := true, named := ["gameplayer/term.nameEnds", "internal/strconv.uint64pow10", "math/bits.deBruijn32tab", "math/bits.deBruijn64tab"], loops := true, apart := false, laid := [("math/bits.deBruijn32tab", laid_math_bits_deBruijn32tab), ("math/bits.deBruijn64tab", laid_math_bits_deBruijn64tab), ("internal/strconv.uint64pow10", laid_internal_strconv_uint64pow10), ("gameplayer/term.nameEnds", laid_gameplayer_term_nameEnds)] }
def UnifyMatchesSaid : Prop := unifyMatchesRow.holds Tryz.pinned (OpenSpec.ofChange unifyMatchesSpec)

/-- ITS FALSE NEIGHBOUR: 'it returns false'. Refute it at one input. -/
def unifyMatchesWrong : ChangeSpec := { name := "unifyMatches", fn := fun _ => fun
  | [d1, d2, d3] => { results := [.lit (.bool false)], args := [d1, d2, d3] }
  | _ => none }
def UnifyMatchesWrongFalsely : Prop := unifyMatchesRow.holds Tryz.pinned (OpenSpec.ofChange unifyMatchesWrong)

/-- 'gameplayerlaw07.UnifyUnifies': WHATEVER THE INPUT: true; the input reads as it did. -/
def unifyUnifiesSpec : ChangeSpec := { name := "unifyUnifies", fn := fun _ => fun
  | [d1, d2] => { results := [.lit (.bool true)], args := [d1, d2] }
  | _ => none }
def unifyUnifiesRow : OpenClaim := { program := "ytihbnonbhelbmaagreatdoor", sum := "32128a574a1d8fdf47c2e627777777143b59a8e1fe879f9c76a3ff58bd26d988", func := "gameplayer/gameplayerlaw07.UnifyUnifies", spec := "unifyUnifies", inPlace := ["slices.overlaps[gameplayer/api.Binding]"], unfollowed := true, recurses := true, named := ["gameplayer/term.nameEnds", "internal/strconv.uint64pow10", "math/bits.deBruijn32tab", "math/bits.deBruijn64tab"], loops := true, apart := false, laid := [("math/bits.deBruijn32tab", laid_math_bits_deBruijn32tab), ("math/bits.deBruijn64tab", laid_math_bits_deBruijn64tab), ("internal/strconv.uint64pow10", laid_internal_strconv_uint64pow10), ("gameplayer/term.nameEnds", laid_gameplayer_term_nameEnds)] }
def UnifyUnifiesSaid : Prop := unifyUnifiesRow.holds Tryz.pinned (OpenSpec.ofChange unifyUnifiesSpec)

/-- ITS FALSE NEIGHBOUR: 'it returns false'. Refute it at one input. -/
def unifyUnifiesWrong : ChangeSpec := { name := "unifyUnifies", fn := fun _ => fun
  | [d1, d2] => { results := [.lit (.bool false)], args := [d1, d2] }
  | _ => none }
def UnifyUnifiesWrongFalsely : Prop := unifyUnifiesRow.holds Tryz.pinned (OpenSpec.ofChange unifyUnifiesWrong)

/-- 'gameplayerlaw07.UnifyComposes': WHATEVER THE INPUT: true; the input reads as it did. -/
def unifyComposesSpec : ChangeSpec := { name := "unifyComposes", fn := fun _ => fun
  | [d1, d2] => { results := [.lit (.bool true)], args := [d1, d2] }
  | _ => none }
def unifyComposesRow : OpenClaim := { program := "ytihbnonbhelbmaagreatdoor", sum := "32128a574a1d8fdf47c2e627777777143b59a8e1fe879f9c76a3ff58bd26d988", func := "gameplayer/gameplayerlaw07.UnifyComposes", spec := "unifyComposes", inPlace := ["slices.overlaps[gameplayer/api.Binding]"], unfollowed := true, recurses := true, named := ["gameplayer/term.nameEnds", "internal/strconv.uint64pow10", "math/bits.deBruijn32tab", "math/bits.deBruijn64tab"], loops := true, apart := false, laid := [("math/bits.deBruijn32tab", laid_math_bits_deBruijn32tab), ("math/bits.deBruijn64tab", laid_math_bits_deBruijn64tab), ("internal/strconv.uint64pow10", laid_internal_strconv_uint64pow10), ("gameplayer/term.nameEnds", laid_gameplayer_term_nameEnds)] }
def UnifyComposesSaid : Prop := unifyComposesRow.holds Tryz.pinned (OpenSpec.ofChange unifyComposesSpec)

/-- ITS FALSE NEIGHBOUR: 'it returns false'. Refute it at one input. -/
def unifyComposesWrong : ChangeSpec := { name := "unifyComposes", fn := fun _ => fun
  | [d1, d2] => { results := [.lit (.bool false)], args := [d1, d2] }
  | _ => none }
def UnifyComposesWrongFalsely : Prop := unifyComposesRow.holds Tryz.pinned (OpenSpec.ofChange unifyComposesWrong)

/-- 'gameplayerlaw07.UnifyRenames': WHATEVER THE INPUT: true; the input reads as it did. -/
def unifyRenamesSpec : ChangeSpec := { name := "unifyRenames", fn := fun _ => fun
  | [d1, d2] => { results := [.lit (.bool true)], args := [d1, d2] }
  | _ => none }
def unifyRenamesRow : OpenClaim := { program := "ytihbnonbhelbmaagreatdoor", sum := "32128a574a1d8fdf47c2e627777777143b59a8e1fe879f9c76a3ff58bd26d988", func := "gameplayer/gameplayerlaw07.UnifyRenames", spec := "unifyRenames", inPlace := ["slices.overlaps[gameplayer/api.Binding]"], unfollowed := true, recurses := true, named := ["gameplayer/term.nameEnds", "internal/strconv.uint64pow10", "math/bits.deBruijn32tab", "math/bits.deBruijn64tab"], loops := true, apart := false, laid := [("math/bits.deBruijn32tab", laid_math_bits_deBruijn32tab), ("math/bits.deBruijn64tab", laid_math_bits_deBruijn64tab), ("internal/strconv.uint64pow10", laid_internal_strconv_uint64pow10), ("gameplayer/term.nameEnds", laid_gameplayer_term_nameEnds)] }
def UnifyRenamesSaid : Prop := unifyRenamesRow.holds Tryz.pinned (OpenSpec.ofChange unifyRenamesSpec)

/-- ITS FALSE NEIGHBOUR: 'it returns false'. Refute it at one input. -/
def unifyRenamesWrong : ChangeSpec := { name := "unifyRenames", fn := fun _ => fun
  | [d1, d2] => { results := [.lit (.bool false)], args := [d1, d2] }
  | _ => none }
def UnifyRenamesWrongFalsely : Prop := unifyRenamesRow.holds Tryz.pinned (OpenSpec.ofChange unifyRenamesWrong)

/-- 'gameplayerlaw07.UnifyMost': WHATEVER THE INPUT: true; the input reads as it did. -/
def unifyMostSpec : ChangeSpec := { name := "unifyMost", fn := fun _ => fun
  | [d1, d2, d3] => { results := [.lit (.bool true)], args := [d1, d2, d3] }
  | _ => none }
def unifyMostRow : OpenClaim := { program := "ytihbnonbhelbmaagreatdoor", sum := "32128a574a1d8fdf47c2e627777777143b59a8e1fe879f9c76a3ff58bd26d988", func := "gameplayer/gameplayerlaw07.UnifyMost", spec := "unifyMost", inPlace := ["slices.overlaps[gameplayer/api.Binding]"], unfollowed := true, recurses := true, named := ["gameplayer/term.nameEnds", "internal/strconv.uint64pow10", "math/bits.deBruijn32tab", "math/bits.deBruijn64tab"], loops := true, apart := false, laid := [("math/bits.deBruijn32tab", laid_math_bits_deBruijn32tab), ("math/bits.deBruijn64tab", laid_math_bits_deBruijn64tab), ("internal/strconv.uint64pow10", laid_internal_strconv_uint64pow10), ("gameplayer/term.nameEnds", laid_gameplayer_term_nameEnds)] }
def UnifyMostSaid : Prop := unifyMostRow.holds Tryz.pinned (OpenSpec.ofChange unifyMostSpec)

/-- ITS FALSE NEIGHBOUR: 'it returns false'. Refute it at one input. -/
def unifyMostWrong : ChangeSpec := { name := "unifyMost", fn := fun _ => fun
  | [d1, d2, d3] => { results := [.lit (.bool false)], args := [d1, d2, d3] }
  | _ => none }
def UnifyMostWrongFalsely : Prop := unifyMostRow.holds Tryz.pinned (OpenSpec.ofChange unifyMostWrong)

/-- 'gameplayerlaw07.UnifyInstances': WHATEVER THE INPUT: true; the input reads as it did. -/
def unifyInstancesSpec : ChangeSpec := { name := "unifyInstances", fn := fun _ => fun
  | [d1, d2] => { results := [.lit (.bool true)], args := [d1, d2] }
  | _ => none }
def unifyInstancesRow : OpenClaim := { program := "ytihbnonbhelbmaagreatdoor", sum := "32128a574a1d8fdf47c2e627777777143b59a8e1fe879f9c76a3ff58bd26d988", func := "gameplayer/gameplayerlaw07.UnifyInstances", spec := "unifyInstances", inPlace := ["slices.overlaps[gameplayer/api.Binding]"], unfollowed := true, recurses := true, named := ["gameplayer/term.nameEnds", "internal/strconv.uint64pow10", "math/bits.deBruijn32tab", "math/bits.deBruijn64tab"], loops := true, apart := false, laid := [("math/bits.deBruijn32tab", laid_math_bits_deBruijn32tab), ("math/bits.deBruijn64tab", laid_math_bits_deBruijn64tab), ("internal/strconv.uint64pow10", laid_internal_strconv_uint64pow10), ("gameplayer/term.nameEnds", laid_gameplayer_term_nameEnds)] }
def UnifyInstancesSaid : Prop := unifyInstancesRow.holds Tryz.pinned (OpenSpec.ofChange unifyInstancesSpec)

/-- ITS FALSE NEIGHBOUR: 'it returns false'. Refute it at one input. -/
def unifyInstancesWrong : ChangeSpec := { name := "unifyInstances", fn := fun _ => fun
  | [d1, d2] => { results := [.lit (.bool false)], args := [d1, d2] }
  | _ => none }
def UnifyInstancesWrongFalsely : Prop := unifyInstancesRow.holds Tryz.pinned (OpenSpec.ofChange unifyInstancesWrong)

/-- 'gameplayerlaw07.UnifyComposition': WHATEVER THE INPUT: true; the input reads as it did. -/
def unifyCompositionSpec : ChangeSpec := { name := "unifyComposition", fn := fun _ => fun
  | [d1, d2, d3] => { results := [.lit (.bool true)], args := [d1, d2, d3] }
  | _ => none }
def unifyCompositionRow : OpenClaim := { program := "ytihbnonbhelbmaagreatdoor", sum := "32128a574a1d8fdf47c2e627777777143b59a8e1fe879f9c76a3ff58bd26d988", func := "gameplayer/gameplayerlaw07.UnifyComposition", spec := "unifyComposition", inPlace := ["slices.overlaps[gameplayer/api.Binding]"], unfollowed := true, recurses := true, named := ["gameplayer/term.nameEnds", "internal/strconv.uint64pow10", "math/bits.deBruijn32tab", "math/bits.deBruijn64tab"], loops := true, apart := false, laid := [("math/bits.deBruijn32tab", laid_math_bits_deBruijn32tab), ("math/bits.deBruijn64tab", laid_math_bits_deBruijn64tab), ("internal/strconv.uint64pow10", laid_internal_strconv_uint64pow10), ("gameplayer/term.nameEnds", laid_gameplayer_term_nameEnds)] }
def UnifyCompositionSaid : Prop := unifyCompositionRow.holds Tryz.pinned (OpenSpec.ofChange unifyCompositionSpec)

/-- ITS FALSE NEIGHBOUR: 'it returns false'. Refute it at one input. -/
def unifyCompositionWrong : ChangeSpec := { name := "unifyComposition", fn := fun _ => fun
  | [d1, d2, d3] => { results := [.lit (.bool false)], args := [d1, d2, d3] }
  | _ => none }
def UnifyCompositionWrongFalsely : Prop := unifyCompositionRow.holds Tryz.pinned (OpenSpec.ofChange unifyCompositionWrong)

/- THE SECOND FORM. 'bulk': how many values and letters a reading holds, each counted each time it is reached (what is shared counts as often as it is met; a slice's spare places count too). A statement '..UptoSaid' is the law's where the arguments, and the package variables that the reading takes, are together of bulk at most 1048576: NARROWER than '..Said'. Prove '..Said' where nothing that the law and all that it calls make is longer than what came in: it says more and counts as full. Else prove '..UptoSaid'. A law counts once. -/
mutual
def uptoBulk {H : Type} : DataW H → Nat
  | .lit (.string bytes) => bytes.length + 1
  | .lit _ => 1
  | .nil => 1
  | .ptr d => uptoBulk d + 1
  | .slice elems spare => uptoBulkAll elems + uptoBulkAll spare + 1
  | .agg parts => uptoBulkAll parts + 1
  | .iface _ d => uptoBulk d + 1
  | .map entries => uptoBulkEntries entries + 1
  | .held _ => 1
def uptoBulkAll {H : Type} : List (DataW H) → Nat
  | [] => 0
  | d :: r => uptoBulk d + uptoBulkAll r
def uptoBulkEntries {H : Type} : List (Lit × DataW H) → Nat
  | [] => 0
  | x :: r => uptoBulkEntry x + uptoBulkEntries r
def uptoBulkEntry {H : Type} : Lit × DataW H → Nat
  | (.string bytes, d) => bytes.length + uptoBulk d + 1
  | (_, d) => uptoBulk d + 1
 end
def uptoSmall : (H : Type) → List (DataW H) → Bool := fun _ ds => decide (uptoBulkAll ds ≤ 1048576)
def OpenSpec.upto (s : _root_.Go.ChangeSpec) : _root_.Go.OpenSpec := { _root_.Go.OpenSpec.ofChange s with cond := some uptoSmall }

/-- 'gameplayerlaw07.UnifyValid', WHERE WHAT IT READS IS OF BULK AT MOST 1048576: true; the input reads as it did. -/
def unifyValidUptoRow : OpenClaim := { program := "ytihbnonbhelbmaagreatdoor", sum := "32128a574a1d8fdf47c2e627777777143b59a8e1fe879f9c76a3ff58bd26d988", func := "gameplayer/gameplayerlaw07.UnifyValid", spec := "unifyValid", inPlace := ["slices.overlaps[gameplayer/api.Binding]"], unfollowed := true, recurses := true, named := ["gameplayer/term.nameEnds", "internal/strconv.uint64pow10", "math/bits.deBruijn32tab", "math/bits.deBruijn64tab"], loops := true, apart := false, laid := [("math/bits.deBruijn32tab", laid_math_bits_deBruijn32tab), ("math/bits.deBruijn64tab", laid_math_bits_deBruijn64tab), ("internal/strconv.uint64pow10", laid_internal_strconv_uint64pow10), ("gameplayer/term.nameEnds", laid_gameplayer_term_nameEnds)], narrowed := true }
def UnifyValidUptoSaid : Prop := unifyValidUptoRow.holds Tryz.pinned (OpenSpec.upto unifyValidSpec)

/-- 'gameplayerlaw07.UnifyApplies', WHERE WHAT IT READS IS OF BULK AT MOST 1048576: true; the input reads as it did. -/
def unifyAppliesUptoRow : OpenClaim := { program := "ytihbnonbhelbmaagreatdoor", sum := "32128a574a1d8fdf47c2e627777777143b59a8e1fe879f9c76a3ff58bd26d988", func := "gameplayer/gameplayerlaw07.UnifyApplies", spec := "unifyApplies", inPlace := ["slices.overlaps[gameplayer/api.Binding]"], unfollowed := true, recurses := true, named := ["gameplayer/term.nameEnds", "internal/strconv.uint64pow10", "math/bits.deBruijn32tab", "math/bits.deBruijn64tab"], loops := true, apart := false, laid := [("math/bits.deBruijn32tab", laid_math_bits_deBruijn32tab), ("math/bits.deBruijn64tab", laid_math_bits_deBruijn64tab), ("internal/strconv.uint64pow10", laid_internal_strconv_uint64pow10), ("gameplayer/term.nameEnds", laid_gameplayer_term_nameEnds)], narrowed := true }
def UnifyAppliesUptoSaid : Prop := unifyAppliesUptoRow.holds Tryz.pinned (OpenSpec.upto unifyAppliesSpec)

/-- 'gameplayerlaw07.UnifyMatches', WHERE WHAT IT READS IS OF BULK AT MOST 1048576: true; the input reads as it did. -/
def unifyMatchesUptoRow : OpenClaim := { program := "ytihbnonbhelbmaagreatdoor", sum := "32128a574a1d8fdf47c2e627777777143b59a8e1fe879f9c76a3ff58bd26d988", func := "gameplayer/gameplayerlaw07.UnifyMatches", spec := "unifyMatches", inPlace := ["slices.overlaps[gameplayer/api.Binding]"], unfollowed := true, recurses := true, named := ["gameplayer/term.nameEnds", "internal/strconv.uint64pow10", "math/bits.deBruijn32tab", "math/bits.deBruijn64tab"], loops := true, apart := false, laid := [("math/bits.deBruijn32tab", laid_math_bits_deBruijn32tab), ("math/bits.deBruijn64tab", laid_math_bits_deBruijn64tab), ("internal/strconv.uint64pow10", laid_internal_strconv_uint64pow10), ("gameplayer/term.nameEnds", laid_gameplayer_term_nameEnds)], narrowed := true }
def UnifyMatchesUptoSaid : Prop := unifyMatchesUptoRow.holds Tryz.pinned (OpenSpec.upto unifyMatchesSpec)

/-- 'gameplayerlaw07.UnifyUnifies', WHERE WHAT IT READS IS OF BULK AT MOST 1048576: true; the input reads as it did. -/
def unifyUnifiesUptoRow : OpenClaim := { program := "ytihbnonbhelbmaagreatdoor", sum := "32128a574a1d8fdf47c2e627777777143b59a8e1fe879f9c76a3ff58bd26d988", func := "gameplayer/gameplayerlaw07.UnifyUnifies", spec := "unifyUnifies", inPlace := ["slices.overlaps[gameplayer/api.Binding]"], unfollowed := true, recurses := true, named := ["gameplayer/term.nameEnds", "internal/strconv.uint64pow10", "math/bits.deBruijn32tab", "math/bits.deBruijn64tab"], loops := true, apart := false, laid := [("math/bits.deBruijn32tab", laid_math_bits_deBruijn32tab), ("math/bits.deBruijn64tab", laid_math_bits_deBruijn64tab), ("internal/strconv.uint64pow10", laid_internal_strconv_uint64pow10), ("gameplayer/term.nameEnds", laid_gameplayer_term_nameEnds)], narrowed := true }
def UnifyUnifiesUptoSaid : Prop := unifyUnifiesUptoRow.holds Tryz.pinned (OpenSpec.upto unifyUnifiesSpec)

/-- 'gameplayerlaw07.UnifyComposes', WHERE WHAT IT READS IS OF BULK AT MOST 1048576: true; the input reads as it did. -/
def unifyComposesUptoRow : OpenClaim := { program := "ytihbnonbhelbmaagreatdoor", sum := "32128a574a1d8fdf47c2e627777777143b59a8e1fe879f9c76a3ff58bd26d988", func := "gameplayer/gameplayerlaw07.UnifyComposes", spec := "unifyComposes", inPlace := ["slices.overlaps[gameplayer/api.Binding]"], unfollowed := true, recurses := true, named := ["gameplayer/term.nameEnds", "internal/strconv.uint64pow10", "math/bits.deBruijn32tab", "math/bits.deBruijn64tab"], loops := true, apart := false, laid := [("math/bits.deBruijn32tab", laid_math_bits_deBruijn32tab), ("math/bits.deBruijn64tab", laid_math_bits_deBruijn64tab), ("internal/strconv.uint64pow10", laid_internal_strconv_uint64pow10), ("gameplayer/term.nameEnds", laid_gameplayer_term_nameEnds)], narrowed := true }
def UnifyComposesUptoSaid : Prop := unifyComposesUptoRow.holds Tryz.pinned (OpenSpec.upto unifyComposesSpec)

/-- 'gameplayerlaw07.UnifyRenames', WHERE WHAT IT READS IS OF BULK AT MOST 1048576: true; the input reads as it did. -/
def unifyRenamesUptoRow : OpenClaim := { program := "ytihbnonbhelbmaagreatdoor", sum := "32128a574a1d8fdf47c2e627777777143b59a8e1fe879f9c76a3ff58bd26d988", func := "gameplayer/gameplayerlaw07.UnifyRenames", spec := "unifyRenames", inPlace := ["slices.overlaps[gameplayer/api.Binding]"], unfollowed := true, recurses := true, named := ["gameplayer/term.nameEnds", "internal/strconv.uint64pow10", "math/bits.deBruijn32tab", "math/bits.deBruijn64tab"], loops := true, apart := false, laid := [("math/bits.deBruijn32tab", laid_math_bits_deBruijn32tab), ("math/bits.deBruijn64tab", laid_math_bits_deBruijn64tab), ("internal/strconv.uint64pow10", laid_internal_strconv_uint64pow10), ("gameplayer/term.nameEnds", laid_gameplayer_term_nameEnds)], narrowed := true }
def UnifyRenamesUptoSaid : Prop := unifyRenamesUptoRow.holds Tryz.pinned (OpenSpec.upto unifyRenamesSpec)

/-- 'gameplayerlaw07.UnifyMost', WHERE WHAT IT READS IS OF BULK AT MOST 1048576: true; the input reads as it did. -/
def unifyMostUptoRow : OpenClaim := { program := "ytihbnonbhelbmaagreatdoor", sum := "32128a574a1d8fdf47c2e627777777143b59a8e1fe879f9c76a3ff58bd26d988", func := "gameplayer/gameplayerlaw07.UnifyMost", spec := "unifyMost", inPlace := ["slices.overlaps[gameplayer/api.Binding]"], unfollowed := true, recurses := true, named := ["gameplayer/term.nameEnds", "internal/strconv.uint64pow10", "math/bits.deBruijn32tab", "math/bits.deBruijn64tab"], loops := true, apart := false, laid := [("math/bits.deBruijn32tab", laid_math_bits_deBruijn32tab), ("math/bits.deBruijn64tab", laid_math_bits_deBruijn64tab), ("internal/strconv.uint64pow10", laid_internal_strconv_uint64pow10), ("gameplayer/term.nameEnds", laid_gameplayer_term_nameEnds)], narrowed := true }
def UnifyMostUptoSaid : Prop := unifyMostUptoRow.holds Tryz.pinned (OpenSpec.upto unifyMostSpec)

/-- 'gameplayerlaw07.UnifyInstances', WHERE WHAT IT READS IS OF BULK AT MOST 1048576: true; the input reads as it did. -/
def unifyInstancesUptoRow : OpenClaim := { program := "ytihbnonbhelbmaagreatdoor", sum := "32128a574a1d8fdf47c2e627777777143b59a8e1fe879f9c76a3ff58bd26d988", func := "gameplayer/gameplayerlaw07.UnifyInstances", spec := "unifyInstances", inPlace := ["slices.overlaps[gameplayer/api.Binding]"], unfollowed := true, recurses := true, named := ["gameplayer/term.nameEnds", "internal/strconv.uint64pow10", "math/bits.deBruijn32tab", "math/bits.deBruijn64tab"], loops := true, apart := false, laid := [("math/bits.deBruijn32tab", laid_math_bits_deBruijn32tab), ("math/bits.deBruijn64tab", laid_math_bits_deBruijn64tab), ("internal/strconv.uint64pow10", laid_internal_strconv_uint64pow10), ("gameplayer/term.nameEnds", laid_gameplayer_term_nameEnds)], narrowed := true }
def UnifyInstancesUptoSaid : Prop := unifyInstancesUptoRow.holds Tryz.pinned (OpenSpec.upto unifyInstancesSpec)

/-- 'gameplayerlaw07.UnifyComposition', WHERE WHAT IT READS IS OF BULK AT MOST 1048576: true; the input reads as it did. -/
def unifyCompositionUptoRow : OpenClaim := { program := "ytihbnonbhelbmaagreatdoor", sum := "32128a574a1d8fdf47c2e627777777143b59a8e1fe879f9c76a3ff58bd26d988", func := "gameplayer/gameplayerlaw07.UnifyComposition", spec := "unifyComposition", inPlace := ["slices.overlaps[gameplayer/api.Binding]"], unfollowed := true, recurses := true, named := ["gameplayer/term.nameEnds", "internal/strconv.uint64pow10", "math/bits.deBruijn32tab", "math/bits.deBruijn64tab"], loops := true, apart := false, laid := [("math/bits.deBruijn32tab", laid_math_bits_deBruijn32tab), ("math/bits.deBruijn64tab", laid_math_bits_deBruijn64tab), ("internal/strconv.uint64pow10", laid_internal_strconv_uint64pow10), ("gameplayer/term.nameEnds", laid_gameplayer_term_nameEnds)], narrowed := true }
def UnifyCompositionUptoSaid : Prop := unifyCompositionUptoRow.holds Tryz.pinned (OpenSpec.upto unifyCompositionSpec)

end Rows
end Go.Proofs.YtihbnonbhelbmaaGreatDoor
