/-
  NARROWER THAN 'FOR EVERY INPUT', by the rows' own cells (each row's printed sentence says how): EvaluateStates: loops · EvaluateSees: loops · DeltaRuns: loops.
  DERIVED. THE GIVEN ROWS OF THIS SEAT. 3 by the template 'for every input the law returns true; each argument reads behind the call as it read before'; 0 by the template 'total and deterministic' (their statements: YtkfeliogglnngaaGreatTotals.lean).
  GIVEN WITH THE SEED: the statements are not yours to turn. If you find one false, say at which input.
  Laid BY PROGRAM, IN A SANDBOX (cutbox-rows.mjs): the forced cells as the released guide's own fill.sh prints them over the translation 6320b06c57e37198… (all of the seat's roots in one cut). By AI agents, Wed Nov 11 2026. No macro, syntax, notation, axiom, sorry.
-/
import Derived.Test.YtkfeliogglnngaaGreatChecked
import GoSem.Claim
import GoSem.ClaimJoined
import GoSem.ClaimMapViews
import Derived.JoinedTies
import Derived.KernelRfl
namespace Go.Proofs.YtkfeliogglnngaaGreat
/- THE CELL 'sum', in the pinned program and in every row, IS THE sha256 OF THE DUMP (.gsa) THAT YtkfeliogglnngaaGreatProg.lean LOADS. Nothing in Lean hashes anything: it is a label: what it is worth is what the hold of that sum in a sandbox is worth. -/
noncomputable def Tryz.pinned : Pinned := { name := "ytkfeliogglnngaagreat", sum := "6320b06c57e37198aa8574341e46a1141a38e981eae3a67dba19040f75e94bce", checked := Tryz.checked }
namespace Rows
def none {H : Type} : Left H := { results := [], args := [] }

/-- 'gameplayerlaw23.EvaluateStates': WHATEVER THE INPUT: true; the input reads as it did. -/
def evaluateStatesSpec : ChangeSpec := { name := "evaluateStates", fn := fun _ => fun
  | [d1, d2] => { results := [.lit (.bool true)], args := [d1, d2] }
  | _ => none }
def evaluateStatesRow : OpenClaim := { program := "ytkfeliogglnngaagreat", sum := "6320b06c57e37198aa8574341e46a1141a38e981eae3a67dba19040f75e94bce", func := "gameplayer/gameplayerlaw23.EvaluateStates", spec := "evaluateStates", unfollowed := true, recurses := true, loops := true, apart := false }
def EvaluateStatesSaid : Prop := evaluateStatesRow.holds Tryz.pinned (OpenSpec.ofChange evaluateStatesSpec)

/-- ITS FALSE NEIGHBOUR: 'it returns false'. Refute it at one input. -/
def evaluateStatesWrong : ChangeSpec := { name := "evaluateStates", fn := fun _ => fun
  | [d1, d2] => { results := [.lit (.bool false)], args := [d1, d2] }
  | _ => none }
def EvaluateStatesWrongFalsely : Prop := evaluateStatesRow.holds Tryz.pinned (OpenSpec.ofChange evaluateStatesWrong)

/-- 'gameplayerlaw23.EvaluateSees': WHATEVER THE INPUT: true; the input reads as it did. -/
def evaluateSeesSpec : ChangeSpec := { name := "evaluateSees", fn := fun _ => fun
  | [d1, d2] => { results := [.lit (.bool true)], args := [d1, d2] }
  | _ => none }
def evaluateSeesRow : OpenClaim := { program := "ytkfeliogglnngaagreat", sum := "6320b06c57e37198aa8574341e46a1141a38e981eae3a67dba19040f75e94bce", func := "gameplayer/gameplayerlaw23.EvaluateSees", spec := "evaluateSees", unfollowed := true, recurses := true, loops := true, apart := false }
def EvaluateSeesSaid : Prop := evaluateSeesRow.holds Tryz.pinned (OpenSpec.ofChange evaluateSeesSpec)

/-- ITS FALSE NEIGHBOUR: 'it returns false'. Refute it at one input. -/
def evaluateSeesWrong : ChangeSpec := { name := "evaluateSees", fn := fun _ => fun
  | [d1, d2] => { results := [.lit (.bool false)], args := [d1, d2] }
  | _ => none }
def EvaluateSeesWrongFalsely : Prop := evaluateSeesRow.holds Tryz.pinned (OpenSpec.ofChange evaluateSeesWrong)

/-- 'gameplayerlaw24.DeltaRuns': WHATEVER THE INPUT: true; the input reads as it did. -/
def deltaRunsSpec : ChangeSpec := { name := "deltaRuns", fn := fun _ => fun
  | [d1, d2, d3] => { results := [.lit (.bool true)], args := [d1, d2, d3] }
  | _ => none }
def deltaRunsRow : OpenClaim := { program := "ytkfeliogglnngaagreat", sum := "6320b06c57e37198aa8574341e46a1141a38e981eae3a67dba19040f75e94bce", func := "gameplayer/gameplayerlaw24.DeltaRuns", spec := "deltaRuns", unfollowed := true, recurses := true, loops := true, apart := false }
def DeltaRunsSaid : Prop := deltaRunsRow.holds Tryz.pinned (OpenSpec.ofChange deltaRunsSpec)

/-- ITS FALSE NEIGHBOUR: 'it returns false'. Refute it at one input. -/
def deltaRunsWrong : ChangeSpec := { name := "deltaRuns", fn := fun _ => fun
  | [d1, d2, d3] => { results := [.lit (.bool false)], args := [d1, d2, d3] }
  | _ => none }
def DeltaRunsWrongFalsely : Prop := deltaRunsRow.holds Tryz.pinned (OpenSpec.ofChange deltaRunsWrong)

/- THE SECOND FORM. 'bulk': how many values and letters a reading holds, each counted each time it is reached (what is shared counts as often as it is met; a slice's spare places count too). A statement '..UptoSaid' is the law's where the arguments, and the package variables that the reading takes, are together of bulk at most 1048576: NARROWER than '..Said'. Prove '..Said' where nothing that the law and all that it calls make is longer than what came in: it says more and counts as full. Else prove '..UptoSaid'. A law counts once. -/
mutual
def uptoBulk {H : Type} : DataW H → Nat
  | .lit (.string bytes) => bytes.length + 1
  | .lit _ => 1
  | .nil => 1
  | .ptr d => uptoBulk d + 1
  | .slice elems spare => uptoBulkAll elems + uptoBulkAll spare + 1
  | .agg parts => uptoBulkAll parts + 1
  | .iface _ d => uptoBulk d + 1
  | .map entries => uptoBulkEntries entries + 1
  | .held _ => 1
def uptoBulkAll {H : Type} : List (DataW H) → Nat
  | [] => 0
  | d :: r => uptoBulk d + uptoBulkAll r
def uptoBulkEntries {H : Type} : List (Lit × DataW H) → Nat
  | [] => 0
  | x :: r => uptoBulkEntry x + uptoBulkEntries r
def uptoBulkEntry {H : Type} : Lit × DataW H → Nat
  | (.string bytes, d) => bytes.length + uptoBulk d + 1
  | (_, d) => uptoBulk d + 1
 end
def uptoSmall : (H : Type) → List (DataW H) → Bool := fun _ ds => decide (uptoBulkAll ds ≤ 1048576)
def OpenSpec.upto (s : _root_.Go.ChangeSpec) : _root_.Go.OpenSpec := { _root_.Go.OpenSpec.ofChange s with cond := some uptoSmall }

/-- 'gameplayerlaw23.EvaluateStates', WHERE WHAT IT READS IS OF BULK AT MOST 1048576: true; the input reads as it did. -/
def evaluateStatesUptoRow : OpenClaim := { program := "ytkfeliogglnngaagreat", sum := "6320b06c57e37198aa8574341e46a1141a38e981eae3a67dba19040f75e94bce", func := "gameplayer/gameplayerlaw23.EvaluateStates", spec := "evaluateStates", unfollowed := true, recurses := true, loops := true, apart := false, narrowed := true }
def EvaluateStatesUptoSaid : Prop := evaluateStatesUptoRow.holds Tryz.pinned (OpenSpec.upto evaluateStatesSpec)

/-- 'gameplayerlaw23.EvaluateSees', WHERE WHAT IT READS IS OF BULK AT MOST 1048576: true; the input reads as it did. -/
def evaluateSeesUptoRow : OpenClaim := { program := "ytkfeliogglnngaagreat", sum := "6320b06c57e37198aa8574341e46a1141a38e981eae3a67dba19040f75e94bce", func := "gameplayer/gameplayerlaw23.EvaluateSees", spec := "evaluateSees", unfollowed := true, recurses := true, loops := true, apart := false, narrowed := true }
def EvaluateSeesUptoSaid : Prop := evaluateSeesUptoRow.holds Tryz.pinned (OpenSpec.upto evaluateSeesSpec)

/-- 'gameplayerlaw24.DeltaRuns', WHERE WHAT IT READS IS OF BULK AT MOST 1048576: true; the input reads as it did. -/
def deltaRunsUptoRow : OpenClaim := { program := "ytkfeliogglnngaagreat", sum := "6320b06c57e37198aa8574341e46a1141a38e981eae3a67dba19040f75e94bce", func := "gameplayer/gameplayerlaw24.DeltaRuns", spec := "deltaRuns", unfollowed := true, recurses := true, loops := true, apart := false, narrowed := true }
def DeltaRunsUptoSaid : Prop := deltaRunsUptoRow.holds Tryz.pinned (OpenSpec.upto deltaRunsSpec)

end Rows
end Go.Proofs.YtkfeliogglnngaaGreat
