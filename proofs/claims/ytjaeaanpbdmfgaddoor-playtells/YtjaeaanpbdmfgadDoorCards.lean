/-
  DERIVED. GIVEN WITH THE SEED: THE CARDS: each row of YtjaeaanpbdmfgadDoorRows.lean that lists a variable, with what it lists TIED to the program's text (the seventh form; the later family's looks); each row that meets fmt, with fmt's text TOLD by the authors' own Lean function (tested against real Go, not proved from fmt's source: count such statements apart). THE CARD IS WHAT COUNTS. Prove the row's statement (the work); the ties are given (YtjaeaanpbdmfgadDoorTie.lean); close each card by the builder's one call (the guide's Derived/Test/ToyasCard.lean, 'card_holds'). Laid BY PROGRAM, IN A SANDBOX (cutbox-door.mjs). By AI agents, Wed Nov 11 2026. No macro, syntax, notation, axiom, sorry.
-/
import Derived.Test.YtjaeaanpbdmfgadDoorRows
import GoSem.ClaimSeven
namespace Go.Proofs.YtjaeaanpbdmfgadDoor
namespace Rows

/-- THE TIED CARD OF 'lanelaw1.PlayTells'. -/
def playTellsCard : Claim7 := { stood := { row := playTellsRow, standIns := [], harness := (true, "a5adbd2f52ae06b38f84a479b272d2f56678afaf74a12eda7314cbeda9f92757"), looks := true }, kinds := [], alts := [], laidByText := true, laidKinds := [.handle], laidTests := true, laidLooks := .later }
def PlayTellsCardSaid : Prop := Claim7.holds Tryd.pinned (.plain (OpenSpec.ofChange playTellsSpec)) playTellsCard

/-- THE SECOND FORM's CARD OF 'lanelaw1.PlayTells'. -/
def playTellsUptoCard : Claim7 := { stood := { row := playTellsUptoRow, standIns := [], harness := (true, "a5adbd2f52ae06b38f84a479b272d2f56678afaf74a12eda7314cbeda9f92757"), looks := true }, kinds := [], alts := [], laidByText := true, laidKinds := [.handle], laidTests := true, laidLooks := .later }
def PlayTellsUptoCardSaid : Prop := Claim7.holds Tryd.pinned (.plain (OpenSpec.upto playTellsSpec)) playTellsUptoCard
end Rows
end Go.Proofs.YtjaeaanpbdmfgadDoor
