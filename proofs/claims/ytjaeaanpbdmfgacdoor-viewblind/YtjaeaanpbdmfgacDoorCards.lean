/-
  DERIVED. GIVEN WITH THE SEED: THE CARDS: each row of YtjaeaanpbdmfgacDoorRows.lean that lists a variable, with what it lists TIED to the program's text (the seventh form; the later family's looks); each row that meets fmt, with fmt's text TOLD by the authors' own Lean function (tested against real Go, not proved from fmt's source: count such statements apart). THE CARD IS WHAT COUNTS. Prove the row's statement (the work); the ties are given (YtjaeaanpbdmfgacDoorTie.lean); close each card by the builder's one call (the guide's Derived/Test/ToyasCard.lean, 'card_holds'). Laid BY PROGRAM, IN A SANDBOX (cutbox-door.mjs). By AI agents, Wed Nov 11 2026. No macro, syntax, notation, axiom, sorry.
-/
import Derived.Test.YtjaeaanpbdmfgacDoorRows
import GoSem.ClaimSeven
namespace Go.Proofs.YtjaeaanpbdmfgacDoor
namespace Rows

/-- THE TIED CARD OF 'lanelaw4.ViewBlind'. -/
def viewBlindCard : Claim7 := { stood := { row := viewBlindRow, standIns := [], harness := (true, "8d1f7ef56ca9fee0a5b236a7ef2f19c795471ccd85f7b955d6d800bc051d4d6a"), looks := true }, kinds := [], alts := [], laidByText := true, laidKinds := [.handle], laidTests := true, laidLooks := .later }
def ViewBlindCardSaid : Prop := Claim7.holds Tryd.pinned (.plain (OpenSpec.ofChange viewBlindSpec)) viewBlindCard

/-- THE TIED CARD OF 'lanelaw1.FacesTell'. -/
def facesTellCard : Claim7 := { stood := { row := facesTellRow, standIns := [], harness := (true, "8d1f7ef56ca9fee0a5b236a7ef2f19c795471ccd85f7b955d6d800bc051d4d6a"), looks := true }, kinds := [], alts := [], laidByText := true, laidKinds := [.handle], laidTests := true, laidLooks := .later }
def FacesTellCardSaid : Prop := Claim7.holds Tryd.pinned (.plain (OpenSpec.ofChange facesTellSpec)) facesTellCard

/-- THE SECOND FORM's CARD OF 'lanelaw4.ViewBlind'. -/
def viewBlindUptoCard : Claim7 := { stood := { row := viewBlindUptoRow, standIns := [], harness := (true, "8d1f7ef56ca9fee0a5b236a7ef2f19c795471ccd85f7b955d6d800bc051d4d6a"), looks := true }, kinds := [], alts := [], laidByText := true, laidKinds := [.handle], laidTests := true, laidLooks := .later }
def ViewBlindUptoCardSaid : Prop := Claim7.holds Tryd.pinned (.plain (OpenSpec.upto viewBlindSpec)) viewBlindUptoCard

/-- THE SECOND FORM's CARD OF 'lanelaw1.FacesTell'. -/
def facesTellUptoCard : Claim7 := { stood := { row := facesTellUptoRow, standIns := [], harness := (true, "8d1f7ef56ca9fee0a5b236a7ef2f19c795471ccd85f7b955d6d800bc051d4d6a"), looks := true }, kinds := [], alts := [], laidByText := true, laidKinds := [.handle], laidTests := true, laidLooks := .later }
def FacesTellUptoCardSaid : Prop := Claim7.holds Tryd.pinned (.plain (OpenSpec.upto facesTellSpec)) facesTellUptoCard
end Rows
end Go.Proofs.YtjaeaanpbdmfgacDoor
