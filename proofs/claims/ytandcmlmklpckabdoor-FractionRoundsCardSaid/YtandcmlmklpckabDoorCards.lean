/-
  DERIVED. GIVEN WITH THE SEED: THE CARDS: each row of YtandcmlmklpckabDoorRows.lean that lists a variable, with what it lists TIED to the program's text (the seventh form; the later family's looks); each row that meets fmt, with fmt's text TOLD by the authors' own Lean function (tested against real Go, not proved from fmt's source: count such statements apart). THE CARD IS WHAT COUNTS. Prove the row's statement (the work); the ties are given (YtandcmlmklpckabDoorTie.lean); close each card by the builder's one call (the guide's Derived/Test/ToyasCard.lean, 'card_holds'). Laid BY PROGRAM, IN A SANDBOX (cutbox-door.mjs). By AI agents, Wed Nov 11 2026. No macro, syntax, notation, axiom, sorry.
-/
import Derived.Test.YtandcmlmklpckabDoorRows
import GoSem.ClaimSeven
namespace Go.Proofs.YtandcmlmklpckabDoor
namespace Rows

/-- THE TIED CARD OF 'gameplayerlaw02.FractionRounds'. -/
def fractionRoundsCard : Claim7 := { stood := { row := fractionRoundsRow, standIns := [], harness := (true, "b0d0c7704c38214c827c5525c46a4a45564f29a20cfc5bae52f7ac062af69fb0"), looks := true }, kinds := [], alts := [], laidByText := true, laidKinds := [.data, .data, .data], laidTests := true, laidLooks := .later }
def FractionRoundsCardSaid : Prop := Claim7.holds Tryd.pinned (.plain (OpenSpec.ofChange fractionRoundsSpec)) fractionRoundsCard

/-- THE TIED CARD OF 'gameplayerlaw02.FractionBack'. -/
def fractionBackCard : Claim7 := { stood := { row := fractionBackRow, standIns := [], harness := (true, "b0d0c7704c38214c827c5525c46a4a45564f29a20cfc5bae52f7ac062af69fb0"), looks := true }, kinds := [], alts := [], laidByText := true, laidKinds := [.data, .data, .data, .sentinel, .sentinel], laidTests := true, laidLooks := .later }
def FractionBackCardSaid : Prop := Claim7.holds Tryd.pinned (.plain (OpenSpec.ofChange fractionBackSpec)) fractionBackCard

/-- THE SECOND FORM's CARD OF 'gameplayerlaw02.FractionRounds'. -/
def fractionRoundsUptoCard : Claim7 := { stood := { row := fractionRoundsUptoRow, standIns := [], harness := (true, "b0d0c7704c38214c827c5525c46a4a45564f29a20cfc5bae52f7ac062af69fb0"), looks := true }, kinds := [], alts := [], laidByText := true, laidKinds := [.data, .data, .data], laidTests := true, laidLooks := .later }
def FractionRoundsUptoCardSaid : Prop := Claim7.holds Tryd.pinned (.plain (OpenSpec.upto fractionRoundsSpec)) fractionRoundsUptoCard

/-- THE SECOND FORM's CARD OF 'gameplayerlaw02.FractionBack'. -/
def fractionBackUptoCard : Claim7 := { stood := { row := fractionBackUptoRow, standIns := [], harness := (true, "b0d0c7704c38214c827c5525c46a4a45564f29a20cfc5bae52f7ac062af69fb0"), looks := true }, kinds := [], alts := [], laidByText := true, laidKinds := [.data, .data, .data, .sentinel, .sentinel], laidTests := true, laidLooks := .later }
def FractionBackUptoCardSaid : Prop := Claim7.holds Tryd.pinned (.plain (OpenSpec.upto fractionBackSpec)) fractionBackUptoCard
end Rows
end Go.Proofs.YtandcmlmklpckabDoor
