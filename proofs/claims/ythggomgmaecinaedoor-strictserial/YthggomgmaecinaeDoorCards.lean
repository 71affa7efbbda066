/-
  DERIVED. GIVEN WITH THE SEED: THE CARDS: each row of YthggomgmaecinaeDoorRows.lean that lists a variable, with what it lists TIED to the program's text (the seventh form; the later family's looks); each row that meets fmt, with fmt's text TOLD by the authors' own Lean function (tested against real Go, not proved from fmt's source: count such statements apart). THE CARD IS WHAT COUNTS. Prove the row's statement (the work); the ties are given (YthggomgmaecinaeDoorTie.lean); close each card by the builder's one call (the guide's Derived/Test/ToyasCard.lean, 'card_holds'). Laid BY PROGRAM, IN A SANDBOX (cutbox-door.mjs). By AI agents, Wed Nov 11 2026. No macro, syntax, notation, axiom, sorry.
-/
import Derived.Test.YthggomgmaecinaeDoorRows
import GoSem.ClaimSeven
namespace Go.Proofs.YthggomgmaecinaeDoor
namespace Rows

/-- THE TIED CARD OF 'lanelaw1.LocksPlay'. -/
def locksPlayCard : Claim7 := { stood := { row := locksPlayRow, standIns := [], harness := (true, "d35b3339ff399ceeeed93488d02b101da82490a62e41b9496b5dc7210d997dba"), looks := true }, kinds := [], alts := [], laidByText := true, laidKinds := [.handle], laidTests := true, laidLooks := .later }
def LocksPlayCardSaid : Prop := Claim7.holds Tryd.pinned (.plain (OpenSpec.ofChange locksPlaySpec)) locksPlayCard

/-- THE TIED CARD OF 'lanelaw4.StrictSerial'. -/
def strictSerialCard : Claim7 := { stood := { row := strictSerialRow, standIns := [], harness := (true, "d35b3339ff399ceeeed93488d02b101da82490a62e41b9496b5dc7210d997dba"), looks := true }, kinds := [], alts := [], laidByText := true, laidKinds := [.handle], laidTests := true, laidLooks := .later }
def StrictSerialCardSaid : Prop := Claim7.holds Tryd.pinned (.plain (OpenSpec.ofChange strictSerialSpec)) strictSerialCard

/-- THE SECOND FORM's CARD OF 'lanelaw1.LocksPlay'. -/
def locksPlayUptoCard : Claim7 := { stood := { row := locksPlayUptoRow, standIns := [], harness := (true, "d35b3339ff399ceeeed93488d02b101da82490a62e41b9496b5dc7210d997dba"), looks := true }, kinds := [], alts := [], laidByText := true, laidKinds := [.handle], laidTests := true, laidLooks := .later }
def LocksPlayUptoCardSaid : Prop := Claim7.holds Tryd.pinned (.plain (OpenSpec.upto locksPlaySpec)) locksPlayUptoCard

/-- THE SECOND FORM's CARD OF 'lanelaw4.StrictSerial'. -/
def strictSerialUptoCard : Claim7 := { stood := { row := strictSerialUptoRow, standIns := [], harness := (true, "d35b3339ff399ceeeed93488d02b101da82490a62e41b9496b5dc7210d997dba"), looks := true }, kinds := [], alts := [], laidByText := true, laidKinds := [.handle], laidTests := true, laidLooks := .later }
def StrictSerialUptoCardSaid : Prop := Claim7.holds Tryd.pinned (.plain (OpenSpec.upto strictSerialSpec)) strictSerialUptoCard
end Rows
end Go.Proofs.YthggomgmaecinaeDoor
