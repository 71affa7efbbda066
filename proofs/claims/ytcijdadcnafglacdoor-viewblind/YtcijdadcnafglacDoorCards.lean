/-
  DERIVED. GIVEN WITH THE SEED: THE CARDS: each row of YtcijdadcnafglacDoorRows.lean that lists a variable, with what it lists TIED to the program's text (the seventh form; the later family's looks); each row that meets fmt, with fmt's text TOLD by the authors' own Lean function (tested against real Go, not proved from fmt's source: count such statements apart). THE CARD IS WHAT COUNTS. Prove the row's statement (the work); the ties are given (YtcijdadcnafglacDoorTie.lean); close each card by the builder's one call (the guide's Derived/Test/ToyasCard.lean, 'card_holds'). Laid BY PROGRAM, IN A SANDBOX (cutbox-door.mjs). By AI agents, Wed Nov 11 2026. No macro, syntax, notation, axiom, sorry.
-/
import Derived.Test.YtcijdadcnafglacDoorRows
import GoSem.ClaimSeven
namespace Go.Proofs.YtcijdadcnafglacDoor
namespace Rows

/-- THE TIED CARD OF 'lanelaw4.ViewBlind'. -/
def viewBlindCard : Claim7 := { stood := { row := viewBlindRow, standIns := [], harness := (true, "268476e7061cf2b2d7526a92e95f350e07e7e40d93f1bb337c1c87800227b9aa"), looks := true }, kinds := [], alts := [], laidByText := true, laidKinds := [.handle], laidTests := true, laidLooks := .later }
def ViewBlindCardSaid : Prop := Claim7.holds Tryd.pinned (.plain (OpenSpec.ofChange viewBlindSpec)) viewBlindCard

/-- THE SECOND FORM's CARD OF 'lanelaw4.ViewBlind'. -/
def viewBlindUptoCard : Claim7 := { stood := { row := viewBlindUptoRow, standIns := [], harness := (true, "268476e7061cf2b2d7526a92e95f350e07e7e40d93f1bb337c1c87800227b9aa"), looks := true }, kinds := [], alts := [], laidByText := true, laidKinds := [.handle], laidTests := true, laidLooks := .later }
def ViewBlindUptoCardSaid : Prop := Claim7.holds Tryd.pinned (.plain (OpenSpec.upto viewBlindSpec)) viewBlindUptoCard
end Rows
end Go.Proofs.YtcijdadcnafglacDoor
