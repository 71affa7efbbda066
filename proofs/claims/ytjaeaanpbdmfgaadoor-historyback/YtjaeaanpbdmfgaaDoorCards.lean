/-
  DERIVED. GIVEN WITH THE SEED: THE CARDS: each row of YtjaeaanpbdmfgaaDoorRows.lean that lists a variable, with what it lists TIED to the program's text (the seventh form; the later family's looks); each row that meets fmt, with fmt's text TOLD by the authors' own Lean function (tested against real Go, not proved from fmt's source: count such statements apart). THE CARD IS WHAT COUNTS. Prove the row's statement (the work); the ties are given (YtjaeaanpbdmfgaaDoorTie.lean); close each card by the builder's one call (the guide's Derived/Test/ToyasCard.lean, 'card_holds'). Laid BY PROGRAM, IN A SANDBOX (cutbox-door.mjs). By AI agents, Wed Nov 11 2026. No macro, syntax, notation, axiom, sorry.
-/
import Derived.Test.YtjaeaanpbdmfgaaDoorRows
import GoSem.ClaimSeven
namespace Go.Proofs.YtjaeaanpbdmfgaaDoor
namespace Rows

/-- THE TIED CARD OF 'lanelaw1.HistoryTells'. -/
def historyTellsCard : Claim7 := { stood := { row := historyTellsRow, standIns := [], harness := (true, "8b8862d6ea7c34fc4365e1b652108bd1711fb9078ef089b29122e8e5cbfba50a"), looks := true }, kinds := [], alts := [], laidByText := true, laidKinds := [.data, .data, .data, .handle], laidTests := true, laidLooks := .later }
def HistoryTellsCardSaid : Prop := Claim7.holds Tryd.pinned (.plain (OpenSpec.ofChange historyTellsSpec)) historyTellsCard

/-- THE TIED CARD OF 'lanelaw1.HistoryBack'. -/
def historyBackCard : Claim7 := { stood := { row := historyBackRow, standIns := [], harness := (true, "8b8862d6ea7c34fc4365e1b652108bd1711fb9078ef089b29122e8e5cbfba50a"), looks := true }, kinds := [], alts := [], laidByText := true, laidKinds := [.data, .data, .data], laidTests := true, laidLooks := .later }
def HistoryBackCardSaid : Prop := Claim7.holds Tryd.pinned (.plain (OpenSpec.ofChange historyBackSpec)) historyBackCard

/-- THE TIED CARD OF 'lanelaw4.HistoryEnds'. -/
def historyEndsCard : Claim7 := { stood := { row := historyEndsRow, standIns := [], harness := (true, "8b8862d6ea7c34fc4365e1b652108bd1711fb9078ef089b29122e8e5cbfba50a"), looks := true }, kinds := [], alts := [], laidByText := true, laidKinds := [.handle], laidTests := true, laidLooks := .later }
def HistoryEndsCardSaid : Prop := Claim7.holds Tryd.pinned (.plain (OpenSpec.ofChange historyEndsSpec)) historyEndsCard

/-- THE TIED CARD OF 'lanelaw1.OddsTell'. -/
def oddsTellCard : Claim7 := { stood := { row := oddsTellRow, standIns := [], harness := (true, "8b8862d6ea7c34fc4365e1b652108bd1711fb9078ef089b29122e8e5cbfba50a"), looks := true }, kinds := [], alts := [], laidByText := true, laidKinds := [.handle], laidTests := true, laidLooks := .later }
def OddsTellCardSaid : Prop := Claim7.holds Tryd.pinned (.plain (OpenSpec.ofChange oddsTellSpec)) oddsTellCard

/-- THE TIED CARD OF 'lanelaw4.OddsReaders'. -/
def oddsReadersCard : Claim7 := { stood := { row := oddsReadersRow, standIns := [], harness := (true, "8b8862d6ea7c34fc4365e1b652108bd1711fb9078ef089b29122e8e5cbfba50a"), looks := true }, kinds := [], alts := [], laidByText := true, laidKinds := [.handle], laidTests := true, laidLooks := .later }
def OddsReadersCardSaid : Prop := Claim7.holds Tryd.pinned (.plain (OpenSpec.ofChange oddsReadersSpec)) oddsReadersCard

/-- THE SECOND FORM's CARD OF 'lanelaw1.HistoryTells'. -/
def historyTellsUptoCard : Claim7 := { stood := { row := historyTellsUptoRow, standIns := [], harness := (true, "8b8862d6ea7c34fc4365e1b652108bd1711fb9078ef089b29122e8e5cbfba50a"), looks := true }, kinds := [], alts := [], laidByText := true, laidKinds := [.data, .data, .data, .handle], laidTests := true, laidLooks := .later }
def HistoryTellsUptoCardSaid : Prop := Claim7.holds Tryd.pinned (.plain (OpenSpec.upto historyTellsSpec)) historyTellsUptoCard

/-- THE SECOND FORM's CARD OF 'lanelaw1.HistoryBack'. -/
def historyBackUptoCard : Claim7 := { stood := { row := historyBackUptoRow, standIns := [], harness := (true, "8b8862d6ea7c34fc4365e1b652108bd1711fb9078ef089b29122e8e5cbfba50a"), looks := true }, kinds := [], alts := [], laidByText := true, laidKinds := [.data, .data, .data], laidTests := true, laidLooks := .later }
def HistoryBackUptoCardSaid : Prop := Claim7.holds Tryd.pinned (.plain (OpenSpec.upto historyBackSpec)) historyBackUptoCard

/-- THE SECOND FORM's CARD OF 'lanelaw4.HistoryEnds'. -/
def historyEndsUptoCard : Claim7 := { stood := { row := historyEndsUptoRow, standIns := [], harness := (true, "8b8862d6ea7c34fc4365e1b652108bd1711fb9078ef089b29122e8e5cbfba50a"), looks := true }, kinds := [], alts := [], laidByText := true, laidKinds := [.handle], laidTests := true, laidLooks := .later }
def HistoryEndsUptoCardSaid : Prop := Claim7.holds Tryd.pinned (.plain (OpenSpec.upto historyEndsSpec)) historyEndsUptoCard

/-- THE SECOND FORM's CARD OF 'lanelaw1.OddsTell'. -/
def oddsTellUptoCard : Claim7 := { stood := { row := oddsTellUptoRow, standIns := [], harness := (true, "8b8862d6ea7c34fc4365e1b652108bd1711fb9078ef089b29122e8e5cbfba50a"), looks := true }, kinds := [], alts := [], laidByText := true, laidKinds := [.handle], laidTests := true, laidLooks := .later }
def OddsTellUptoCardSaid : Prop := Claim7.holds Tryd.pinned (.plain (OpenSpec.upto oddsTellSpec)) oddsTellUptoCard

/-- THE SECOND FORM's CARD OF 'lanelaw4.OddsReaders'. -/
def oddsReadersUptoCard : Claim7 := { stood := { row := oddsReadersUptoRow, standIns := [], harness := (true, "8b8862d6ea7c34fc4365e1b652108bd1711fb9078ef089b29122e8e5cbfba50a"), looks := true }, kinds := [], alts := [], laidByText := true, laidKinds := [.handle], laidTests := true, laidLooks := .later }
def OddsReadersUptoCardSaid : Prop := Claim7.holds Tryd.pinned (.plain (OpenSpec.upto oddsReadersSpec)) oddsReadersUptoCard
end Rows
end Go.Proofs.YtjaeaanpbdmfgaaDoor
