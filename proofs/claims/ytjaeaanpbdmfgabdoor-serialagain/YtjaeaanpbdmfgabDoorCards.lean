/-
  DERIVED. GIVEN WITH THE SEED: THE CARDS: each row of YtjaeaanpbdmfgabDoorRows.lean that lists a variable, with what it lists TIED to the program's text (the seventh form; the later family's looks); each row that meets fmt, with fmt's text TOLD by the authors' own Lean function (tested against real Go, not proved from fmt's source: count such statements apart). THE CARD IS WHAT COUNTS. Prove the row's statement (the work); the ties are given (YtjaeaanpbdmfgabDoorTie.lean); close each card by the builder's one call (the guide's Derived/Test/ToyasCard.lean, 'card_holds'). Laid BY PROGRAM, IN A SANDBOX (cutbox-door.mjs). By AI agents, Wed Nov 11 2026. No macro, syntax, notation, axiom, sorry.
-/
import Derived.Test.YtjaeaanpbdmfgabDoorRows
import GoSem.ClaimSeven
namespace Go.Proofs.YtjaeaanpbdmfgabDoor
namespace Rows

/-- THE TIED CARD OF 'lanelaw1.GraphTells'. -/
def graphTellsCard : Claim7 := { stood := { row := graphTellsRow, standIns := [], harness := (true, "c03ba66ce4ad54f5cbde65baf59898844ef06adfdb03078845e095f9c8773e10"), looks := true }, kinds := [], alts := [], laidByText := true, laidKinds := [.handle], laidTests := true, laidLooks := .later }
def GraphTellsCardSaid : Prop := Claim7.holds Tryd.pinned (.plain (OpenSpec.ofChange graphTellsSpec)) graphTellsCard

/-- THE TIED CARD OF 'lanelaw4.GraphChain'. -/
def graphChainCard : Claim7 := { stood := { row := graphChainRow, standIns := [], harness := (true, "c03ba66ce4ad54f5cbde65baf59898844ef06adfdb03078845e095f9c8773e10"), looks := true }, kinds := [], alts := [], laidByText := true, laidKinds := [.handle], laidTests := true, laidLooks := .later }
def GraphChainCardSaid : Prop := Claim7.holds Tryd.pinned (.plain (OpenSpec.ofChange graphChainSpec)) graphChainCard

/-- THE TIED CARD OF 'lanelaw4.SerialAgain'. -/
def serialAgainCard : Claim7 := { stood := { row := serialAgainRow, standIns := [], harness := (true, "c03ba66ce4ad54f5cbde65baf59898844ef06adfdb03078845e095f9c8773e10"), looks := true }, kinds := [], alts := [], laidByText := true, laidKinds := [.handle], laidTests := true, laidLooks := .later }
def SerialAgainCardSaid : Prop := Claim7.holds Tryd.pinned (.plain (OpenSpec.ofChange serialAgainSpec)) serialAgainCard

/-- THE SECOND FORM's CARD OF 'lanelaw1.GraphTells'. -/
def graphTellsUptoCard : Claim7 := { stood := { row := graphTellsUptoRow, standIns := [], harness := (true, "c03ba66ce4ad54f5cbde65baf59898844ef06adfdb03078845e095f9c8773e10"), looks := true }, kinds := [], alts := [], laidByText := true, laidKinds := [.handle], laidTests := true, laidLooks := .later }
def GraphTellsUptoCardSaid : Prop := Claim7.holds Tryd.pinned (.plain (OpenSpec.upto graphTellsSpec)) graphTellsUptoCard

/-- THE SECOND FORM's CARD OF 'lanelaw4.GraphChain'. -/
def graphChainUptoCard : Claim7 := { stood := { row := graphChainUptoRow, standIns := [], harness := (true, "c03ba66ce4ad54f5cbde65baf59898844ef06adfdb03078845e095f9c8773e10"), looks := true }, kinds := [], alts := [], laidByText := true, laidKinds := [.handle], laidTests := true, laidLooks := .later }
def GraphChainUptoCardSaid : Prop := Claim7.holds Tryd.pinned (.plain (OpenSpec.upto graphChainSpec)) graphChainUptoCard

/-- THE SECOND FORM's CARD OF 'lanelaw4.SerialAgain'. -/
def serialAgainUptoCard : Claim7 := { stood := { row := serialAgainUptoRow, standIns := [], harness := (true, "c03ba66ce4ad54f5cbde65baf59898844ef06adfdb03078845e095f9c8773e10"), looks := true }, kinds := [], alts := [], laidByText := true, laidKinds := [.handle], laidTests := true, laidLooks := .later }
def SerialAgainUptoCardSaid : Prop := Claim7.holds Tryd.pinned (.plain (OpenSpec.upto serialAgainSpec)) serialAgainUptoCard
end Rows
end Go.Proofs.YtjaeaanpbdmfgabDoor
