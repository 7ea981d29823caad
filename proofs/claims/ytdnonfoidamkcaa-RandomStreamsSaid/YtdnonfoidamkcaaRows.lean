/-
  No cell of these rows narrows 'for every input' (looked for: loops, veiled, ifaces, maps, wideKeys, modest, calm, conditions, laid).
  DERIVED. THE GIVEN ROWS OF THIS SEAT. 8 by the template 'for every input the law returns true; each argument reads behind the call as it read before'; 0 by the template 'total and deterministic' (their statements: YtdnonfoidamkcaaTotals.lean).
  GIVEN WITH THE SEED: the statements are not yours to turn. If you find one false, say at which input.
  Laid BY PROGRAM, IN A SANDBOX (cutbox-rows.mjs): the forced cells as the released guide's own fill.sh prints them over the translation 840481a60cf29fc6… (all of the seat's roots in one cut). By AI agents, Wed Nov 11 2026. No macro, syntax, notation, axiom, sorry.
-/
import Derived.Test.YtdnonfoidamkcaaChecked
import GoSem.Claim
import GoSem.ClaimJoined
import GoSem.ClaimMapViews
import Derived.JoinedTies
import Derived.KernelRfl
namespace Go.Proofs.Ytdnonfoidamkcaa
/- THE CELL 'sum', in the pinned program and in every row, IS THE sha256 OF THE DUMP (.gsa) THAT YtdnonfoidamkcaaProg.lean LOADS. Nothing in Lean hashes anything: it is a label: what it is worth is what the hold of that sum in a sandbox is worth. -/
noncomputable def Try.pinned : Pinned := { name := "ytdnonfoidamkcaa", sum := "840481a60cf29fc6ac47ceeb44dcc1b6f6d701f8d539579061686ea6b9e879da", checked := Try.checked }
namespace Rows
def none {H : Type} : Left H := { results := [], args := [] }

/-- 'gameplayerlaw03.RandomNexts': WHATEVER THE INPUT: true; the input reads as it did. -/
def randomNextsSpec : ChangeSpec := { name := "randomNexts", fn := fun _ => fun
  | [d1, d2] => { results := [.lit (.bool true)], args := [d1, d2] }
  | _ => none }
def randomNextsRow : OpenClaim := { program := "ytdnonfoidamkcaa", sum := "840481a60cf29fc6ac47ceeb44dcc1b6f6d701f8d539579061686ea6b9e879da", func := "gameplayer/gameplayerlaw03.RandomNexts", spec := "randomNexts", unfollowed := true, recurses := true, apart := false }
def RandomNextsSaid : Prop := randomNextsRow.holds Try.pinned (OpenSpec.ofChange randomNextsSpec)

/-- ITS FALSE NEIGHBOUR: 'it returns false'. Refute it at one input. -/
def randomNextsWrong : ChangeSpec := { name := "randomNexts", fn := fun _ => fun
  | [d1, d2] => { results := [.lit (.bool false)], args := [d1, d2] }
  | _ => none }
def RandomNextsWrongFalsely : Prop := randomNextsRow.holds Try.pinned (OpenSpec.ofChange randomNextsWrong)

/-- 'gameplayerlaw03.RandomSeeds': WHATEVER THE INPUT: true; the input reads as it did. -/
def randomSeedsSpec : ChangeSpec := { name := "randomSeeds", fn := fun _ => fun
  | [d] => { results := [.lit (.bool true)], args := [d] }
  | _ => none }
def randomSeedsRow : OpenClaim := { program := "ytdnonfoidamkcaa", sum := "840481a60cf29fc6ac47ceeb44dcc1b6f6d701f8d539579061686ea6b9e879da", func := "gameplayer/gameplayerlaw03.RandomSeeds", spec := "randomSeeds", unfollowed := true, recurses := true, apart := false }
def RandomSeedsSaid : Prop := randomSeedsRow.holds Try.pinned (OpenSpec.ofChange randomSeedsSpec)

/-- ITS FALSE NEIGHBOUR: 'it returns false'. Refute it at one input. -/
def randomSeedsWrong : ChangeSpec := { name := "randomSeeds", fn := fun _ => fun
  | [d] => { results := [.lit (.bool false)], args := [d] }
  | _ => none }
def RandomSeedsWrongFalsely : Prop := randomSeedsRow.holds Try.pinned (OpenSpec.ofChange randomSeedsWrong)

/-- 'gameplayerlaw03.RandomSplits': WHATEVER THE INPUT: true; the input reads as it did. -/
def randomSplitsSpec : ChangeSpec := { name := "randomSplits", fn := fun _ => fun
  | [d] => { results := [.lit (.bool true)], args := [d] }
  | _ => none }
def randomSplitsRow : OpenClaim := { program := "ytdnonfoidamkcaa", sum := "840481a60cf29fc6ac47ceeb44dcc1b6f6d701f8d539579061686ea6b9e879da", func := "gameplayer/gameplayerlaw03.RandomSplits", spec := "randomSplits", unfollowed := true, recurses := true, apart := false }
def RandomSplitsSaid : Prop := randomSplitsRow.holds Try.pinned (OpenSpec.ofChange randomSplitsSpec)

/-- ITS FALSE NEIGHBOUR: 'it returns false'. Refute it at one input. -/
def randomSplitsWrong : ChangeSpec := { name := "randomSplits", fn := fun _ => fun
  | [d] => { results := [.lit (.bool false)], args := [d] }
  | _ => none }
def RandomSplitsWrongFalsely : Prop := randomSplitsRow.holds Try.pinned (OpenSpec.ofChange randomSplitsWrong)

/-- 'gameplayerlaw03.RandomShuffles': WHATEVER THE INPUT: true; the input reads as it did. -/
def randomShufflesSpec : ChangeSpec := { name := "randomShuffles", fn := fun _ => fun
  | [d1, d2] => { results := [.lit (.bool true)], args := [d1, d2] }
  | _ => none }
def randomShufflesRow : OpenClaim := { program := "ytdnonfoidamkcaa", sum := "840481a60cf29fc6ac47ceeb44dcc1b6f6d701f8d539579061686ea6b9e879da", func := "gameplayer/gameplayerlaw03.RandomShuffles", spec := "randomShuffles", unfollowed := true, recurses := true, apart := false }
def RandomShufflesSaid : Prop := randomShufflesRow.holds Try.pinned (OpenSpec.ofChange randomShufflesSpec)

/-- ITS FALSE NEIGHBOUR: 'it returns false'. Refute it at one input. -/
def randomShufflesWrong : ChangeSpec := { name := "randomShuffles", fn := fun _ => fun
  | [d1, d2] => { results := [.lit (.bool false)], args := [d1, d2] }
  | _ => none }
def RandomShufflesWrongFalsely : Prop := randomShufflesRow.holds Try.pinned (OpenSpec.ofChange randomShufflesWrong)

/-- 'gameplayerlaw03.RandomPicks': WHATEVER THE INPUT: true; the input reads as it did. -/
def randomPicksSpec : ChangeSpec := { name := "randomPicks", fn := fun _ => fun
  | [d1, d2] => { results := [.lit (.bool true)], args := [d1, d2] }
  | _ => none }
def randomPicksRow : OpenClaim := { program := "ytdnonfoidamkcaa", sum := "840481a60cf29fc6ac47ceeb44dcc1b6f6d701f8d539579061686ea6b9e879da", func := "gameplayer/gameplayerlaw03.RandomPicks", spec := "randomPicks", unfollowed := true, recurses := true, apart := false }
def RandomPicksSaid : Prop := randomPicksRow.holds Try.pinned (OpenSpec.ofChange randomPicksSpec)

/-- ITS FALSE NEIGHBOUR: 'it returns false'. Refute it at one input. -/
def randomPicksWrong : ChangeSpec := { name := "randomPicks", fn := fun _ => fun
  | [d1, d2] => { results := [.lit (.bool false)], args := [d1, d2] }
  | _ => none }
def RandomPicksWrongFalsely : Prop := randomPicksRow.holds Try.pinned (OpenSpec.ofChange randomPicksWrong)

/-- 'gameplayerlaw03.RandomPermutes': WHATEVER THE INPUT: true; the input reads as it did. -/
def randomPermutesSpec : ChangeSpec := { name := "randomPermutes", fn := fun _ => fun
  | [d1, d2] => { results := [.lit (.bool true)], args := [d1, d2] }
  | _ => none }
def randomPermutesRow : OpenClaim := { program := "ytdnonfoidamkcaa", sum := "840481a60cf29fc6ac47ceeb44dcc1b6f6d701f8d539579061686ea6b9e879da", func := "gameplayer/gameplayerlaw03.RandomPermutes", spec := "randomPermutes", unfollowed := true, recurses := true, apart := false }
def RandomPermutesSaid : Prop := randomPermutesRow.holds Try.pinned (OpenSpec.ofChange randomPermutesSpec)

/-- ITS FALSE NEIGHBOUR: 'it returns false'. Refute it at one input. -/
def randomPermutesWrong : ChangeSpec := { name := "randomPermutes", fn := fun _ => fun
  | [d1, d2] => { results := [.lit (.bool false)], args := [d1, d2] }
  | _ => none }
def RandomPermutesWrongFalsely : Prop := randomPermutesRow.holds Try.pinned (OpenSpec.ofChange randomPermutesWrong)

/-- 'gameplayerlaw03.RandomBounds': WHATEVER THE INPUT: true; the input reads as it did. -/
def randomBoundsSpec : ChangeSpec := { name := "randomBounds", fn := fun _ => fun
  | [d1, d2, d3] => { results := [.lit (.bool true)], args := [d1, d2, d3] }
  | _ => none }
def randomBoundsRow : OpenClaim := { program := "ytdnonfoidamkcaa", sum := "840481a60cf29fc6ac47ceeb44dcc1b6f6d701f8d539579061686ea6b9e879da", func := "gameplayer/gameplayerlaw03.RandomBounds", spec := "randomBounds", unfollowed := true, recurses := true, apart := false }
def RandomBoundsSaid : Prop := randomBoundsRow.holds Try.pinned (OpenSpec.ofChange randomBoundsSpec)

/-- ITS FALSE NEIGHBOUR: 'it returns false'. Refute it at one input. -/
def randomBoundsWrong : ChangeSpec := { name := "randomBounds", fn := fun _ => fun
  | [d1, d2, d3] => { results := [.lit (.bool false)], args := [d1, d2, d3] }
  | _ => none }
def RandomBoundsWrongFalsely : Prop := randomBoundsRow.holds Try.pinned (OpenSpec.ofChange randomBoundsWrong)

/-- 'gameplayerlaw03.RandomStreams': WHATEVER THE INPUT: true; the input reads as it did. -/
def randomStreamsSpec : ChangeSpec := { name := "randomStreams", fn := fun _ => fun
  | [d1, d2, d3] => { results := [.lit (.bool true)], args := [d1, d2, d3] }
  | _ => none }
def randomStreamsRow : OpenClaim := { program := "ytdnonfoidamkcaa", sum := "840481a60cf29fc6ac47ceeb44dcc1b6f6d701f8d539579061686ea6b9e879da", func := "gameplayer/gameplayerlaw03.RandomStreams", spec := "randomStreams", unfollowed := true, recurses := true, apart := false }
def RandomStreamsSaid : Prop := randomStreamsRow.holds Try.pinned (OpenSpec.ofChange randomStreamsSpec)

/-- ITS FALSE NEIGHBOUR: 'it returns false'. Refute it at one input. -/
def randomStreamsWrong : ChangeSpec := { name := "randomStreams", fn := fun _ => fun
  | [d1, d2, d3] => { results := [.lit (.bool false)], args := [d1, d2, d3] }
  | _ => none }
def RandomStreamsWrongFalsely : Prop := randomStreamsRow.holds Try.pinned (OpenSpec.ofChange randomStreamsWrong)

/- THE SECOND FORM. 'bulk': how many values and letters a reading holds, each counted each time it is reached (what is shared counts as often as it is met; a slice's spare places count too). A statement '..UptoSaid' is the law's where the arguments, and the package variables that the reading takes, are together of bulk at most 1048576: NARROWER than '..Said'. Prove '..Said' where nothing that the law and all that it calls make is longer than what came in: it says more and counts as full. Else prove '..UptoSaid'. A law counts once. -/
mutual
def uptoBulk {H : Type} : DataW H → Nat
  | .lit (.string bytes) => bytes.length + 1
  | .lit _ => 1
  | .nil => 1
  | .ptr d => uptoBulk d + 1
  | .slice elems spare => uptoBulkAll elems + uptoBulkAll spare + 1
  | .agg parts => uptoBulkAll parts + 1
  | .iface _ d => uptoBulk d + 1
  | .map entries => uptoBulkEntries entries + 1
  | .held _ => 1
def uptoBulkAll {H : Type} : List (DataW H) → Nat
  | [] => 0
  | d :: r => uptoBulk d + uptoBulkAll r
def uptoBulkEntries {H : Type} : List (Lit × DataW H) → Nat
  | [] => 0
  | x :: r => uptoBulkEntry x + uptoBulkEntries r
def uptoBulkEntry {H : Type} : Lit × DataW H → Nat
  | (.string bytes, d) => bytes.length + uptoBulk d + 1
  | (_, d) => uptoBulk d + 1
 end
def uptoSmall : (H : Type) → List (DataW H) → Bool := fun _ ds => decide (uptoBulkAll ds ≤ 1048576)
def OpenSpec.upto (s : _root_.Go.ChangeSpec) : _root_.Go.OpenSpec := { _root_.Go.OpenSpec.ofChange s with cond := some uptoSmall }

/-- 'gameplayerlaw03.RandomNexts', WHERE WHAT IT READS IS OF BULK AT MOST 1048576: true; the input reads as it did. -/
def randomNextsUptoRow : OpenClaim := { program := "ytdnonfoidamkcaa", sum := "840481a60cf29fc6ac47ceeb44dcc1b6f6d701f8d539579061686ea6b9e879da", func := "gameplayer/gameplayerlaw03.RandomNexts", spec := "randomNexts", unfollowed := true, recurses := true, apart := false, narrowed := true }
def RandomNextsUptoSaid : Prop := randomNextsUptoRow.holds Try.pinned (OpenSpec.upto randomNextsSpec)

/-- 'gameplayerlaw03.RandomSeeds', WHERE WHAT IT READS IS OF BULK AT MOST 1048576: true; the input reads as it did. -/
def randomSeedsUptoRow : OpenClaim := { program := "ytdnonfoidamkcaa", sum := "840481a60cf29fc6ac47ceeb44dcc1b6f6d701f8d539579061686ea6b9e879da", func := "gameplayer/gameplayerlaw03.RandomSeeds", spec := "randomSeeds", unfollowed := true, recurses := true, apart := false, narrowed := true }
def RandomSeedsUptoSaid : Prop := randomSeedsUptoRow.holds Try.pinned (OpenSpec.upto randomSeedsSpec)

/-- 'gameplayerlaw03.RandomSplits', WHERE WHAT IT READS IS OF BULK AT MOST 1048576: true; the input reads as it did. -/
def randomSplitsUptoRow : OpenClaim := { program := "ytdnonfoidamkcaa", sum := "840481a60cf29fc6ac47ceeb44dcc1b6f6d701f8d539579061686ea6b9e879da", func := "gameplayer/gameplayerlaw03.RandomSplits", spec := "randomSplits", unfollowed := true, recurses := true, apart := false, narrowed := true }
def RandomSplitsUptoSaid : Prop := randomSplitsUptoRow.holds Try.pinned (OpenSpec.upto randomSplitsSpec)

/-- 'gameplayerlaw03.RandomShuffles', WHERE WHAT IT READS IS OF BULK AT MOST 1048576: true; the input reads as it did. -/
def randomShufflesUptoRow : OpenClaim := { program := "ytdnonfoidamkcaa", sum := "840481a60cf29fc6ac47ceeb44dcc1b6f6d701f8d539579061686ea6b9e879da", func := "gameplayer/gameplayerlaw03.RandomShuffles", spec := "randomShuffles", unfollowed := true, recurses := true, apart := false, narrowed := true }
def RandomShufflesUptoSaid : Prop := randomShufflesUptoRow.holds Try.pinned (OpenSpec.upto randomShufflesSpec)

/-- 'gameplayerlaw03.RandomPicks', WHERE WHAT IT READS IS OF BULK AT MOST 1048576: true; the input reads as it did. -/
def randomPicksUptoRow : OpenClaim := { program := "ytdnonfoidamkcaa", sum := "840481a60cf29fc6ac47ceeb44dcc1b6f6d701f8d539579061686ea6b9e879da", func := "gameplayer/gameplayerlaw03.RandomPicks", spec := "randomPicks", unfollowed := true, recurses := true, apart := false, narrowed := true }
def RandomPicksUptoSaid : Prop := randomPicksUptoRow.holds Try.pinned (OpenSpec.upto randomPicksSpec)

/-- 'gameplayerlaw03.RandomPermutes', WHERE WHAT IT READS IS OF BULK AT MOST 1048576: true; the input reads as it did. -/
def randomPermutesUptoRow : OpenClaim := { program := "ytdnonfoidamkcaa", sum := "840481a60cf29fc6ac47ceeb44dcc1b6f6d701f8d539579061686ea6b9e879da", func := "gameplayer/gameplayerlaw03.RandomPermutes", spec := "randomPermutes", unfollowed := true, recurses := true, apart := false, narrowed := true }
def RandomPermutesUptoSaid : Prop := randomPermutesUptoRow.holds Try.pinned (OpenSpec.upto randomPermutesSpec)

/-- 'gameplayerlaw03.RandomBounds', WHERE WHAT IT READS IS OF BULK AT MOST 1048576: true; the input reads as it did. -/
def randomBoundsUptoRow : OpenClaim := { program := "ytdnonfoidamkcaa", sum := "840481a60cf29fc6ac47ceeb44dcc1b6f6d701f8d539579061686ea6b9e879da", func := "gameplayer/gameplayerlaw03.RandomBounds", spec := "randomBounds", unfollowed := true, recurses := true, apart := false, narrowed := true }
def RandomBoundsUptoSaid : Prop := randomBoundsUptoRow.holds Try.pinned (OpenSpec.upto randomBoundsSpec)

/-- 'gameplayerlaw03.RandomStreams', WHERE WHAT IT READS IS OF BULK AT MOST 1048576: true; the input reads as it did. -/
def randomStreamsUptoRow : OpenClaim := { program := "ytdnonfoidamkcaa", sum := "840481a60cf29fc6ac47ceeb44dcc1b6f6d701f8d539579061686ea6b9e879da", func := "gameplayer/gameplayerlaw03.RandomStreams", spec := "randomStreams", unfollowed := true, recurses := true, apart := false, narrowed := true }
def RandomStreamsUptoSaid : Prop := randomStreamsUptoRow.holds Try.pinned (OpenSpec.upto randomStreamsSpec)

end Rows
end Go.Proofs.Ytdnonfoidamkcaa
