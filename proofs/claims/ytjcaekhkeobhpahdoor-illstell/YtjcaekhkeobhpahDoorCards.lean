/-
  DERIVED. GIVEN WITH THE SEED: THE CARDS: each row of YtjcaekhkeobhpahDoorRows.lean that lists a variable, with what it lists TIED to the program's text (the seventh form; the later family's looks); each row that meets fmt, with fmt's text TOLD by the authors' own Lean function (tested against real Go, not proved from fmt's source: count such statements apart). THE CARD IS WHAT COUNTS. Prove the row's statement (the work); the ties are given (YtjcaekhkeobhpahDoorTie.lean); close each card by the builder's one call (the guide's Derived/Test/ToyasCard.lean, 'card_holds'). Laid BY PROGRAM, IN A SANDBOX (cutbox-door.mjs). By AI agents, Wed Nov 11 2026. No macro, syntax, notation, axiom, sorry.
-/
import Derived.Test.YtjcaekhkeobhpahDoorRows
import GoSem.ClaimSeven
namespace Go.Proofs.YtjcaekhkeobhpahDoor
namespace Rows

/-- THE TIED CARD OF 'lanelaw3.IllsTell'. -/
def illsTellCard : Claim7 := { stood := { row := illsTellRow, standIns := [], harness := (true, "f99b71cef206a9b7d2b713329662bf522916172f644670502c3601613e56d9ac"), looks := true }, kinds := [], alts := [], laidByText := true, laidKinds := [.handle], laidTests := true, laidLooks := .later }
def IllsTellCardSaid : Prop := Claim7.holds Tryd.pinned (.plain (OpenSpec.ofChange illsTellSpec)) illsTellCard

/-- THE TIED CARD OF 'lanelaw3.IllsFaces'. -/
def illsFacesCard : Claim7 := { stood := { row := illsFacesRow, standIns := [], harness := (true, "f99b71cef206a9b7d2b713329662bf522916172f644670502c3601613e56d9ac"), looks := true }, kinds := [], alts := [], laidByText := true, laidKinds := [.handle], laidTests := true, laidLooks := .later }
def IllsFacesCardSaid : Prop := Claim7.holds Tryd.pinned (.plain (OpenSpec.ofChange illsFacesSpec)) illsFacesCard

/-- THE TIED CARD OF 'lanelaw4.IllsSerial'. -/
def illsSerialCard : Claim7 := { stood := { row := illsSerialRow, standIns := [], harness := (true, "f99b71cef206a9b7d2b713329662bf522916172f644670502c3601613e56d9ac"), looks := true }, kinds := [], alts := [], laidByText := true, laidKinds := [.handle], laidTests := true, laidLooks := .later }
def IllsSerialCardSaid : Prop := Claim7.holds Tryd.pinned (.plain (OpenSpec.ofChange illsSerialSpec)) illsSerialCard

/-- THE SECOND FORM's CARD OF 'lanelaw3.IllsTell'. -/
def illsTellUptoCard : Claim7 := { stood := { row := illsTellUptoRow, standIns := [], harness := (true, "f99b71cef206a9b7d2b713329662bf522916172f644670502c3601613e56d9ac"), looks := true }, kinds := [], alts := [], laidByText := true, laidKinds := [.handle], laidTests := true, laidLooks := .later }
def IllsTellUptoCardSaid : Prop := Claim7.holds Tryd.pinned (.plain (OpenSpec.upto illsTellSpec)) illsTellUptoCard

/-- THE SECOND FORM's CARD OF 'lanelaw3.IllsFaces'. -/
def illsFacesUptoCard : Claim7 := { stood := { row := illsFacesUptoRow, standIns := [], harness := (true, "f99b71cef206a9b7d2b713329662bf522916172f644670502c3601613e56d9ac"), looks := true }, kinds := [], alts := [], laidByText := true, laidKinds := [.handle], laidTests := true, laidLooks := .later }
def IllsFacesUptoCardSaid : Prop := Claim7.holds Tryd.pinned (.plain (OpenSpec.upto illsFacesSpec)) illsFacesUptoCard

/-- THE SECOND FORM's CARD OF 'lanelaw4.IllsSerial'. -/
def illsSerialUptoCard : Claim7 := { stood := { row := illsSerialUptoRow, standIns := [], harness := (true, "f99b71cef206a9b7d2b713329662bf522916172f644670502c3601613e56d9ac"), looks := true }, kinds := [], alts := [], laidByText := true, laidKinds := [.handle], laidTests := true, laidLooks := .later }
def IllsSerialUptoCardSaid : Prop := Claim7.holds Tryd.pinned (.plain (OpenSpec.upto illsSerialSpec)) illsSerialUptoCard
end Rows
end Go.Proofs.YtjcaekhkeobhpahDoor
