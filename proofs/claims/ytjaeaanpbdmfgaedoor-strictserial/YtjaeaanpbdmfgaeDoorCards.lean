/-
  DERIVED. GIVEN WITH THE SEED: THE CARDS: each row of YtjaeaanpbdmfgaeDoorRows.lean that lists a variable, with what it lists TIED to the program's text (the seventh form; the later family's looks); each row that meets fmt, with fmt's text TOLD by the authors' own Lean function (tested against real Go, not proved from fmt's source: count such statements apart). THE CARD IS WHAT COUNTS. Prove the row's statement (the work); the ties are given (YtjaeaanpbdmfgaeDoorTie.lean); close each card by the builder's one call (the guide's Derived/Test/ToyasCard.lean, 'card_holds'). Laid BY PROGRAM, IN A SANDBOX (cutbox-door.mjs). By AI agents, Wed Nov 11 2026. No macro, syntax, notation, axiom, sorry.
-/
import Derived.Test.YtjaeaanpbdmfgaeDoorRows
import GoSem.ClaimSeven
namespace Go.Proofs.YtjaeaanpbdmfgaeDoor
namespace Rows

/-- THE TIED CARD OF 'lanelaw1.LocksPlay'. -/
def locksPlayCard : Claim7 := { stood := { row := locksPlayRow, standIns := [], harness := (true, "ffae6a190c122069c34255748e3299c5f5b5fe2561aa8f15a29c334d5ddc7d84"), looks := true }, kinds := [], alts := [], laidByText := true, laidKinds := [.handle], laidTests := true, laidLooks := .later }
def LocksPlayCardSaid : Prop := Claim7.holds Tryd.pinned (.plain (OpenSpec.ofChange locksPlaySpec)) locksPlayCard

/-- THE TIED CARD OF 'lanelaw4.StrictSerial'. -/
def strictSerialCard : Claim7 := { stood := { row := strictSerialRow, standIns := [], harness := (true, "ffae6a190c122069c34255748e3299c5f5b5fe2561aa8f15a29c334d5ddc7d84"), looks := true }, kinds := [], alts := [], laidByText := true, laidKinds := [.handle], laidTests := true, laidLooks := .later }
def StrictSerialCardSaid : Prop := Claim7.holds Tryd.pinned (.plain (OpenSpec.ofChange strictSerialSpec)) strictSerialCard

/-- THE TIED CARD OF 'lanelaw2.StampTells'. -/
def stampTellsCard : Claim7 := { stood := { row := stampTellsRow, standIns := [], harness := (true, "ffae6a190c122069c34255748e3299c5f5b5fe2561aa8f15a29c334d5ddc7d84"), looks := true }, kinds := [], alts := [], laidByText := true, laidKinds := [.handle], laidTests := true, laidLooks := .later }
def StampTellsCardSaid : Prop := Claim7.holds Tryd.pinned (.plain (OpenSpec.ofChange stampTellsSpec)) stampTellsCard

/-- THE SECOND FORM's CARD OF 'lanelaw1.LocksPlay'. -/
def locksPlayUptoCard : Claim7 := { stood := { row := locksPlayUptoRow, standIns := [], harness := (true, "ffae6a190c122069c34255748e3299c5f5b5fe2561aa8f15a29c334d5ddc7d84"), looks := true }, kinds := [], alts := [], laidByText := true, laidKinds := [.handle], laidTests := true, laidLooks := .later }
def LocksPlayUptoCardSaid : Prop := Claim7.holds Tryd.pinned (.plain (OpenSpec.upto locksPlaySpec)) locksPlayUptoCard

/-- THE SECOND FORM's CARD OF 'lanelaw4.StrictSerial'. -/
def strictSerialUptoCard : Claim7 := { stood := { row := strictSerialUptoRow, standIns := [], harness := (true, "ffae6a190c122069c34255748e3299c5f5b5fe2561aa8f15a29c334d5ddc7d84"), looks := true }, kinds := [], alts := [], laidByText := true, laidKinds := [.handle], laidTests := true, laidLooks := .later }
def StrictSerialUptoCardSaid : Prop := Claim7.holds Tryd.pinned (.plain (OpenSpec.upto strictSerialSpec)) strictSerialUptoCard

/-- THE SECOND FORM's CARD OF 'lanelaw2.StampTells'. -/
def stampTellsUptoCard : Claim7 := { stood := { row := stampTellsUptoRow, standIns := [], harness := (true, "ffae6a190c122069c34255748e3299c5f5b5fe2561aa8f15a29c334d5ddc7d84"), looks := true }, kinds := [], alts := [], laidByText := true, laidKinds := [.handle], laidTests := true, laidLooks := .later }
def StampTellsUptoCardSaid : Prop := Claim7.holds Tryd.pinned (.plain (OpenSpec.upto stampTellsSpec)) stampTellsUptoCard
end Rows
end Go.Proofs.YtjaeaanpbdmfgaeDoor
