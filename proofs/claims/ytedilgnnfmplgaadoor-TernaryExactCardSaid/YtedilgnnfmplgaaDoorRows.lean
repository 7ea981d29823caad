/-
  NARROWER THAN 'FOR EVERY INPUT', by the rows' own cells (each row's printed sentence says how): TernaryLogic: laid · TernaryValues: loops, laid · TernaryKnown: loops, laid · TernaryExact: loops, laid · TernaryRefines: loops, laid · TernaryDual: laid.
  DERIVED. THE GIVEN ROWS OF THIS SEAT. 6 by the template 'for every input the law returns true; each argument reads behind the call as it read before'; 0 by the template 'total and deterministic' (their statements: YtedilgnnfmplgaaDoorTotals.lean).
  GIVEN WITH THE SEED: the statements are not yours to turn. If you find one false, say at which input.
  Laid BY PROGRAM, IN A SANDBOX (cutbox-rows.mjs): the forced cells as the released guide's own fill.sh prints them over the translation e60995de0671d6c2… (all of the seat's roots in one cut). By AI agents, Wed Nov 11 2026. No macro, syntax, notation, axiom, sorry.
-/
import Derived.Test.YtedilgnnfmplgaaDoorChecked
import GoSem.Claim
import GoSem.ClaimJoined
import GoSem.ClaimMapViews
import Derived.JoinedTies
import Derived.KernelRfl
namespace Go.Proofs.YtedilgnnfmplgaaDoor
/- THE CELL 'sum', in the pinned program and in every row, IS THE sha256 OF THE DUMP (.gsa) THAT YtedilgnnfmplgaaDoorProg.lean LOADS. Nothing in Lean hashes anything: it is a label: what it is worth is what the hold of that sum in a sandbox is worth. -/
noncomputable def Tryd.pinned : Pinned := { name := "ytedilgnnfmplgaadoor", sum := "e60995de0671d6c214872d9ff82ad060c39de5085bb23d9349ec5dc6c79449cd", checked := Tryd.checked }
namespace Rows
def none {H : Type} : Left H := { results := [], args := [] }

/- WHAT THE LISTED PACKAGE-LEVEL VARIABLES READ AS WHEN THE CALL BEGINS. Each datum BY PROGRAM (the guide's laid-datum.mjs) off the statement by which the dump's own 'gosem.cut.vars' lays the variable. In a bare row this is a premise. The card (YtedilgnnfmplgaaDoorCards.lean) ties it to the program's text. -/
def laid_gameplayer_ternary_conjunctions {H : Type} : DataW H := .agg [.agg [.lit (.int .i64 0), .lit (.int .i64 0), .lit (.int .i64 0)], .agg [.lit (.int .i64 0), .lit (.int .i64 1), .lit (.int .i64 2)], .agg [.lit (.int .i64 0), .lit (.int .i64 2), .lit (.int .i64 2)]]
def laid_gameplayer_ternary_disjunctions {H : Type} : DataW H := .agg [.agg [.lit (.int .i64 0), .lit (.int .i64 1), .lit (.int .i64 2)], .agg [.lit (.int .i64 1), .lit (.int .i64 1), .lit (.int .i64 1)], .agg [.lit (.int .i64 2), .lit (.int .i64 1), .lit (.int .i64 2)]]
def laid_gameplayer_ternary_negations {H : Type} : DataW H := .agg [.lit (.int .i64 1), .lit (.int .i64 0), .lit (.int .i64 2)]

/-- 'gameplayerlaw25.TernaryLogic': WHATEVER THE INPUT: true; the input reads as it did. -/
def ternaryLogicSpec : ChangeSpec := { name := "ternaryLogic", fn := fun _ => fun
  | [d1, d2] => { results := [.lit (.bool true)], args := [d1, d2] }
  | _ => none }
def ternaryLogicRow : OpenClaim := { program := "ytedilgnnfmplgaadoor", sum := "e60995de0671d6c214872d9ff82ad060c39de5085bb23d9349ec5dc6c79449cd", func := "gameplayer/gameplayerlaw25.TernaryLogic", spec := "ternaryLogic", unfollowed := true, recurses := true, named := ["gameplayer/ternary.conjunctions", "gameplayer/ternary.disjunctions", "gameplayer/ternary.negations"], apart := false, laid := [("gameplayer/ternary.conjunctions", laid_gameplayer_ternary_conjunctions), ("gameplayer/ternary.disjunctions", laid_gameplayer_ternary_disjunctions), ("gameplayer/ternary.negations", laid_gameplayer_ternary_negations)] }
def TernaryLogicSaid : Prop := ternaryLogicRow.holds Tryd.pinned (OpenSpec.ofChange ternaryLogicSpec)

/-- ITS FALSE NEIGHBOUR: 'it returns false'. Refute it at one input. -/
def ternaryLogicWrong : ChangeSpec := { name := "ternaryLogic", fn := fun _ => fun
  | [d1, d2] => { results := [.lit (.bool false)], args := [d1, d2] }
  | _ => none }
def TernaryLogicWrongFalsely : Prop := ternaryLogicRow.holds Tryd.pinned (OpenSpec.ofChange ternaryLogicWrong)

/-- 'gameplayerlaw25.TernaryValues': WHATEVER THE INPUT: true; the input reads as it did. -/
def ternaryValuesSpec : ChangeSpec := { name := "ternaryValues", fn := fun _ => fun
  | [d1, d2, d3] => { results := [.lit (.bool true)], args := [d1, d2, d3] }
  | _ => none }
def ternaryValuesRow : OpenClaim := { program := "ytedilgnnfmplgaadoor", sum := "e60995de0671d6c214872d9ff82ad060c39de5085bb23d9349ec5dc6c79449cd", func := "gameplayer/gameplayerlaw25.TernaryValues", spec := "ternaryValues", unfollowed := true, recurses := true, named := ["gameplayer/ternary.conjunctions", "gameplayer/ternary.disjunctions", "gameplayer/ternary.negations"], loops := true, apart := false, laid := [("gameplayer/ternary.conjunctions", laid_gameplayer_ternary_conjunctions), ("gameplayer/ternary.disjunctions", laid_gameplayer_ternary_disjunctions), ("gameplayer/ternary.negations", laid_gameplayer_ternary_negations)] }
def TernaryValuesSaid : Prop := ternaryValuesRow.holds Tryd.pinned (OpenSpec.ofChange ternaryValuesSpec)

/-- ITS FALSE NEIGHBOUR: 'it returns false'. Refute it at one input. -/
def ternaryValuesWrong : ChangeSpec := { name := "ternaryValues", fn := fun _ => fun
  | [d1, d2, d3] => { results := [.lit (.bool false)], args := [d1, d2, d3] }
  | _ => none }
def TernaryValuesWrongFalsely : Prop := ternaryValuesRow.holds Tryd.pinned (OpenSpec.ofChange ternaryValuesWrong)

/-- 'gameplayerlaw25.TernaryKnown': WHATEVER THE INPUT: true; the input reads as it did. -/
def ternaryKnownSpec : ChangeSpec := { name := "ternaryKnown", fn := fun _ => fun
  | [d1, d2, d3] => { results := [.lit (.bool true)], args := [d1, d2, d3] }
  | _ => none }
def ternaryKnownRow : OpenClaim := { program := "ytedilgnnfmplgaadoor", sum := "e60995de0671d6c214872d9ff82ad060c39de5085bb23d9349ec5dc6c79449cd", func := "gameplayer/gameplayerlaw25.TernaryKnown", spec := "ternaryKnown", unfollowed := true, recurses := true, named := ["gameplayer/ternary.conjunctions", "gameplayer/ternary.disjunctions", "gameplayer/ternary.negations"], loops := true, apart := false, laid := [("gameplayer/ternary.conjunctions", laid_gameplayer_ternary_conjunctions), ("gameplayer/ternary.disjunctions", laid_gameplayer_ternary_disjunctions), ("gameplayer/ternary.negations", laid_gameplayer_ternary_negations)] }
def TernaryKnownSaid : Prop := ternaryKnownRow.holds Tryd.pinned (OpenSpec.ofChange ternaryKnownSpec)

/-- ITS FALSE NEIGHBOUR: 'it returns false'. Refute it at one input. -/
def ternaryKnownWrong : ChangeSpec := { name := "ternaryKnown", fn := fun _ => fun
  | [d1, d2, d3] => { results := [.lit (.bool false)], args := [d1, d2, d3] }
  | _ => none }
def TernaryKnownWrongFalsely : Prop := ternaryKnownRow.holds Tryd.pinned (OpenSpec.ofChange ternaryKnownWrong)

/-- 'gameplayerlaw25.TernaryExact': WHATEVER THE INPUT: true; the input reads as it did. -/
def ternaryExactSpec : ChangeSpec := { name := "ternaryExact", fn := fun _ => fun
  | [d1, d2] => { results := [.lit (.bool true)], args := [d1, d2] }
  | _ => none }
def ternaryExactRow : OpenClaim := { program := "ytedilgnnfmplgaadoor", sum := "e60995de0671d6c214872d9ff82ad060c39de5085bb23d9349ec5dc6c79449cd", func := "gameplayer/gameplayerlaw25.TernaryExact", spec := "ternaryExact", unfollowed := true, recurses := true, named := ["gameplayer/ternary.conjunctions", "gameplayer/ternary.disjunctions", "gameplayer/ternary.negations"], loops := true, apart := false, laid := [("gameplayer/ternary.conjunctions", laid_gameplayer_ternary_conjunctions), ("gameplayer/ternary.disjunctions", laid_gameplayer_ternary_disjunctions), ("gameplayer/ternary.negations", laid_gameplayer_ternary_negations)] }
def TernaryExactSaid : Prop := ternaryExactRow.holds Tryd.pinned (OpenSpec.ofChange ternaryExactSpec)

/-- ITS FALSE NEIGHBOUR: 'it returns false'. Refute it at one input. -/
def ternaryExactWrong : ChangeSpec := { name := "ternaryExact", fn := fun _ => fun
  | [d1, d2] => { results := [.lit (.bool false)], args := [d1, d2] }
  | _ => none }
def TernaryExactWrongFalsely : Prop := ternaryExactRow.holds Tryd.pinned (OpenSpec.ofChange ternaryExactWrong)

/-- 'gameplayerlaw25.TernaryRefines': WHATEVER THE INPUT: true; the input reads as it did. -/
def ternaryRefinesSpec : ChangeSpec := { name := "ternaryRefines", fn := fun _ => fun
  | [d1, d2, d3] => { results := [.lit (.bool true)], args := [d1, d2, d3] }
  | _ => none }
def ternaryRefinesRow : OpenClaim := { program := "ytedilgnnfmplgaadoor", sum := "e60995de0671d6c214872d9ff82ad060c39de5085bb23d9349ec5dc6c79449cd", func := "gameplayer/gameplayerlaw25.TernaryRefines", spec := "ternaryRefines", unfollowed := true, recurses := true, named := ["gameplayer/ternary.conjunctions", "gameplayer/ternary.disjunctions", "gameplayer/ternary.negations"], loops := true, apart := false, laid := [("gameplayer/ternary.conjunctions", laid_gameplayer_ternary_conjunctions), ("gameplayer/ternary.disjunctions", laid_gameplayer_ternary_disjunctions), ("gameplayer/ternary.negations", laid_gameplayer_ternary_negations)] }
def TernaryRefinesSaid : Prop := ternaryRefinesRow.holds Tryd.pinned (OpenSpec.ofChange ternaryRefinesSpec)

/-- ITS FALSE NEIGHBOUR: 'it returns false'. Refute it at one input. -/
def ternaryRefinesWrong : ChangeSpec := { name := "ternaryRefines", fn := fun _ => fun
  | [d1, d2, d3] => { results := [.lit (.bool false)], args := [d1, d2, d3] }
  | _ => none }
def TernaryRefinesWrongFalsely : Prop := ternaryRefinesRow.holds Tryd.pinned (OpenSpec.ofChange ternaryRefinesWrong)

/-- 'gameplayerlaw25.TernaryDual': WHATEVER THE INPUT: true; the input reads as it did. -/
def ternaryDualSpec : ChangeSpec := { name := "ternaryDual", fn := fun _ => fun
  | [d1, d2, d3] => { results := [.lit (.bool true)], args := [d1, d2, d3] }
  | _ => none }
def ternaryDualRow : OpenClaim := { program := "ytedilgnnfmplgaadoor", sum := "e60995de0671d6c214872d9ff82ad060c39de5085bb23d9349ec5dc6c79449cd", func := "gameplayer/gameplayerlaw25.TernaryDual", spec := "ternaryDual", unfollowed := true, recurses := true, named := ["gameplayer/ternary.conjunctions", "gameplayer/ternary.disjunctions", "gameplayer/ternary.negations"], apart := false, laid := [("gameplayer/ternary.conjunctions", laid_gameplayer_ternary_conjunctions), ("gameplayer/ternary.disjunctions", laid_gameplayer_ternary_disjunctions), ("gameplayer/ternary.negations", laid_gameplayer_ternary_negations)] }
def TernaryDualSaid : Prop := ternaryDualRow.holds Tryd.pinned (OpenSpec.ofChange ternaryDualSpec)

/-- ITS FALSE NEIGHBOUR: 'it returns false'. Refute it at one input. -/
def ternaryDualWrong : ChangeSpec := { name := "ternaryDual", fn := fun _ => fun
  | [d1, d2, d3] => { results := [.lit (.bool false)], args := [d1, d2, d3] }
  | _ => none }
def TernaryDualWrongFalsely : Prop := ternaryDualRow.holds Tryd.pinned (OpenSpec.ofChange ternaryDualWrong)

/- THE SECOND FORM. 'bulk': how many values and letters a reading holds, each counted each time it is reached (what is shared counts as often as it is met; a slice's spare places count too). A statement '..UptoSaid' is the law's where the arguments, and the package variables that the reading takes, are together of bulk at most 1048576: NARROWER than '..Said'. Prove '..Said' where nothing that the law and all that it calls make is longer than what came in: it says more and counts as full. Else prove '..UptoSaid'. A law counts once. -/
mutual
def uptoBulk {H : Type} : DataW H → Nat
  | .lit (.string bytes) => bytes.length + 1
  | .lit _ => 1
  | .nil => 1
  | .ptr d => uptoBulk d + 1
  | .slice elems spare => uptoBulkAll elems + uptoBulkAll spare + 1
  | .agg parts => uptoBulkAll parts + 1
  | .iface _ d => uptoBulk d + 1
  | .map entries => uptoBulkEntries entries + 1
  | .held _ => 1
def uptoBulkAll {H : Type} : List (DataW H) → Nat
  | [] => 0
  | d :: r => uptoBulk d + uptoBulkAll r
def uptoBulkEntries {H : Type} : List (Lit × DataW H) → Nat
  | [] => 0
  | x :: r => uptoBulkEntry x + uptoBulkEntries r
def uptoBulkEntry {H : Type} : Lit × DataW H → Nat
  | (.string bytes, d) => bytes.length + uptoBulk d + 1
  | (_, d) => uptoBulk d + 1
 end
def uptoSmall : (H : Type) → List (DataW H) → Bool := fun _ ds => decide (uptoBulkAll ds ≤ 1048576)
def OpenSpec.upto (s : _root_.Go.ChangeSpec) : _root_.Go.OpenSpec := { _root_.Go.OpenSpec.ofChange s with cond := some uptoSmall }

/-- 'gameplayerlaw25.TernaryLogic', WHERE WHAT IT READS IS OF BULK AT MOST 1048576: true; the input reads as it did. -/
def ternaryLogicUptoRow : OpenClaim := { program := "ytedilgnnfmplgaadoor", sum := "e60995de0671d6c214872d9ff82ad060c39de5085bb23d9349ec5dc6c79449cd", func := "gameplayer/gameplayerlaw25.TernaryLogic", spec := "ternaryLogic", unfollowed := true, recurses := true, named := ["gameplayer/ternary.conjunctions", "gameplayer/ternary.disjunctions", "gameplayer/ternary.negations"], apart := false, laid := [("gameplayer/ternary.conjunctions", laid_gameplayer_ternary_conjunctions), ("gameplayer/ternary.disjunctions", laid_gameplayer_ternary_disjunctions), ("gameplayer/ternary.negations", laid_gameplayer_ternary_negations)], narrowed := true }
def TernaryLogicUptoSaid : Prop := ternaryLogicUptoRow.holds Tryd.pinned (OpenSpec.upto ternaryLogicSpec)

/-- 'gameplayerlaw25.TernaryValues', WHERE WHAT IT READS IS OF BULK AT MOST 1048576: true; the input reads as it did. -/
def ternaryValuesUptoRow : OpenClaim := { program := "ytedilgnnfmplgaadoor", sum := "e60995de0671d6c214872d9ff82ad060c39de5085bb23d9349ec5dc6c79449cd", func := "gameplayer/gameplayerlaw25.TernaryValues", spec := "ternaryValues", unfollowed := true, recurses := true, named := ["gameplayer/ternary.conjunctions", "gameplayer/ternary.disjunctions", "gameplayer/ternary.negations"], loops := true, apart := false, laid := [("gameplayer/ternary.conjunctions", laid_gameplayer_ternary_conjunctions), ("gameplayer/ternary.disjunctions", laid_gameplayer_ternary_disjunctions), ("gameplayer/ternary.negations", laid_gameplayer_ternary_negations)], narrowed := true }
def TernaryValuesUptoSaid : Prop := ternaryValuesUptoRow.holds Tryd.pinned (OpenSpec.upto ternaryValuesSpec)

/-- 'gameplayerlaw25.TernaryKnown', WHERE WHAT IT READS IS OF BULK AT MOST 1048576: true; the input reads as it did. -/
def ternaryKnownUptoRow : OpenClaim := { program := "ytedilgnnfmplgaadoor", sum := "e60995de0671d6c214872d9ff82ad060c39de5085bb23d9349ec5dc6c79449cd", func := "gameplayer/gameplayerlaw25.TernaryKnown", spec := "ternaryKnown", unfollowed := true, recurses := true, named := ["gameplayer/ternary.conjunctions", "gameplayer/ternary.disjunctions", "gameplayer/ternary.negations"], loops := true, apart := false, laid := [("gameplayer/ternary.conjunctions", laid_gameplayer_ternary_conjunctions), ("gameplayer/ternary.disjunctions", laid_gameplayer_ternary_disjunctions), ("gameplayer/ternary.negations", laid_gameplayer_ternary_negations)], narrowed := true }
def TernaryKnownUptoSaid : Prop := ternaryKnownUptoRow.holds Tryd.pinned (OpenSpec.upto ternaryKnownSpec)

/-- 'gameplayerlaw25.TernaryExact', WHERE WHAT IT READS IS OF BULK AT MOST 1048576: true; the input reads as it did. -/
def ternaryExactUptoRow : OpenClaim := { program := "ytedilgnnfmplgaadoor", sum := "e60995de0671d6c214872d9ff82ad060c39de5085bb23d9349ec5dc6c79449cd", func := "gameplayer/gameplayerlaw25.TernaryExact", spec := "ternaryExact", unfollowed := true, recurses := true, named := ["gameplayer/ternary.conjunctions", "gameplayer/ternary.disjunctions", "gameplayer/ternary.negations"], loops := true, apart := false, laid := [("gameplayer/ternary.conjunctions", laid_gameplayer_ternary_conjunctions), ("gameplayer/ternary.disjunctions", laid_gameplayer_ternary_disjunctions), ("gameplayer/ternary.negations", laid_gameplayer_ternary_negations)], narrowed := true }
def TernaryExactUptoSaid : Prop := ternaryExactUptoRow.holds Tryd.pinned (OpenSpec.upto ternaryExactSpec)

/-- 'gameplayerlaw25.TernaryRefines', WHERE WHAT IT READS IS OF BULK AT MOST 1048576: true; the input reads as it did. -/
def ternaryRefinesUptoRow : OpenClaim := { program := "ytedilgnnfmplgaadoor", sum := "e60995de0671d6c214872d9ff82ad060c39de5085bb23d9349ec5dc6c79449cd", func := "gameplayer/gameplayerlaw25.TernaryRefines", spec := "ternaryRefines", unfollowed := true, recurses := true, named := ["gameplayer/ternary.conjunctions", "gameplayer/ternary.disjunctions", "gameplayer/ternary.negations"], loops := true, apart := false, laid := [("gameplayer/ternary.conjunctions", laid_gameplayer_ternary_conjunctions), ("gameplayer/ternary.disjunctions", laid_gameplayer_ternary_disjunctions), ("gameplayer/ternary.negations", laid_gameplayer_ternary_negations)], narrowed := true }
def TernaryRefinesUptoSaid : Prop := ternaryRefinesUptoRow.holds Tryd.pinned (OpenSpec.upto ternaryRefinesSpec)

/-- 'gameplayerlaw25.TernaryDual', WHERE WHAT IT READS IS OF BULK AT MOST 1048576: true; the input reads as it did. -/
def ternaryDualUptoRow : OpenClaim := { program := "ytedilgnnfmplgaadoor", sum := "e60995de0671d6c214872d9ff82ad060c39de5085bb23d9349ec5dc6c79449cd", func := "gameplayer/gameplayerlaw25.TernaryDual", spec := "ternaryDual", unfollowed := true, recurses := true, named := ["gameplayer/ternary.conjunctions", "gameplayer/ternary.disjunctions", "gameplayer/ternary.negations"], apart := false, laid := [("gameplayer/ternary.conjunctions", laid_gameplayer_ternary_conjunctions), ("gameplayer/ternary.disjunctions", laid_gameplayer_ternary_disjunctions), ("gameplayer/ternary.negations", laid_gameplayer_ternary_negations)], narrowed := true }
def TernaryDualUptoSaid : Prop := ternaryDualUptoRow.holds Tryd.pinned (OpenSpec.upto ternaryDualSpec)

end Rows
end Go.Proofs.YtedilgnnfmplgaaDoor
