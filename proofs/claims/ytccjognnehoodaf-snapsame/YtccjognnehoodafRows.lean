/-
  No cell of these rows narrows 'for every input' (looked for: loops, veiled, ifaces, maps, wideKeys, modest, calm, conditions, laid).
  DERIVED. THE GIVEN ROWS OF THIS SEAT. 4 by the template 'for every input the law returns true; each argument reads behind the call as it read before'; 0 by the template 'total and deterministic' (their statements: YtccjognnehoodafTotals.lean).
  GIVEN WITH THE SEED: the statements are not yours to turn. If you find one false, say at which input.
  Laid BY PROGRAM, IN A SANDBOX (cutbox-rows.mjs): the forced cells as the released guide's own fill.sh prints them over the translation 186c307aa735311b… (all of the seat's roots in one cut). By AI agents, Wed Nov 11 2026. No macro, syntax, notation, axiom, sorry.
-/
import Derived.Test.YtccjognnehoodafChecked
import GoSem.Claim
import GoSem.ClaimJoined
import GoSem.ClaimMapViews
import Derived.JoinedTies
import Derived.KernelRfl
namespace Go.Proofs.Ytccjognnehoodaf
/- THE CELL 'sum', in the pinned program and in every row, IS THE sha256 OF THE DUMP (.gsa) THAT YtccjognnehoodafProg.lean LOADS. Nothing in Lean hashes anything: it is a label: what it is worth is what the hold of that sum in a sandbox is worth. -/
noncomputable def Try.pinned : Pinned := { name := "ytccjognnehoodaf", sum := "186c307aa735311baefb13198c59854b4c4897b353f14140695322ddc6823ba2", checked := Try.checked }
namespace Rows
def none {H : Type} : Left H := { results := [], args := [] }

/-- 'lanelaw2.StampOrders': WHATEVER THE INPUT: true; the input reads as it did. -/
def stampOrdersSpec : ChangeSpec := { name := "stampOrders", fn := fun _ => fun
  | [d] => { results := [.lit (.bool true)], args := [d] }
  | _ => none }
def stampOrdersRow : OpenClaim := { program := "ytccjognnehoodaf", sum := "186c307aa735311baefb13198c59854b4c4897b353f14140695322ddc6823ba2", func := "locklane/lanelaw2.StampOrders", spec := "stampOrders", unfollowed := true, recurses := true, apart := false }
def StampOrdersSaid : Prop := stampOrdersRow.holds Try.pinned (OpenSpec.ofChange stampOrdersSpec)

/-- ITS FALSE NEIGHBOUR: 'it returns false'. Refute it at one input. -/
def stampOrdersWrong : ChangeSpec := { name := "stampOrders", fn := fun _ => fun
  | [d] => { results := [.lit (.bool false)], args := [d] }
  | _ => none }
def StampOrdersWrongFalsely : Prop := stampOrdersRow.holds Try.pinned (OpenSpec.ofChange stampOrdersWrong)

/-- 'lanelaw4.StampRising': WHATEVER THE INPUT: true; the input reads as it did. -/
def stampRisingSpec : ChangeSpec := { name := "stampRising", fn := fun _ => fun
  | [d1, d2, d3, d4] => { results := [.lit (.bool true)], args := [d1, d2, d3, d4] }
  | _ => none }
def stampRisingRow : OpenClaim := { program := "ytccjognnehoodaf", sum := "186c307aa735311baefb13198c59854b4c4897b353f14140695322ddc6823ba2", func := "locklane/lanelaw4.StampRising", spec := "stampRising", apart := false }
def StampRisingSaid : Prop := stampRisingRow.holds Try.pinned (OpenSpec.ofChange stampRisingSpec)

/-- ITS FALSE NEIGHBOUR: 'it returns false'. Refute it at one input. -/
def stampRisingWrong : ChangeSpec := { name := "stampRising", fn := fun _ => fun
  | [d1, d2, d3, d4] => { results := [.lit (.bool false)], args := [d1, d2, d3, d4] }
  | _ => none }
def StampRisingWrongFalsely : Prop := stampRisingRow.holds Try.pinned (OpenSpec.ofChange stampRisingWrong)

/-- 'lanelaw2.ValidSerial': WHATEVER THE INPUT: true; the input reads as it did. -/
def validSerialSpec : ChangeSpec := { name := "validSerial", fn := fun _ => fun
  | [d] => { results := [.lit (.bool true)], args := [d] }
  | _ => none }
def validSerialRow : OpenClaim := { program := "ytccjognnehoodaf", sum := "186c307aa735311baefb13198c59854b4c4897b353f14140695322ddc6823ba2", func := "locklane/lanelaw2.ValidSerial", spec := "validSerial", unfollowed := true, recurses := true, apart := false }
def ValidSerialSaid : Prop := validSerialRow.holds Try.pinned (OpenSpec.ofChange validSerialSpec)

/-- ITS FALSE NEIGHBOUR: 'it returns false'. Refute it at one input. -/
def validSerialWrong : ChangeSpec := { name := "validSerial", fn := fun _ => fun
  | [d] => { results := [.lit (.bool false)], args := [d] }
  | _ => none }
def ValidSerialWrongFalsely : Prop := validSerialRow.holds Try.pinned (OpenSpec.ofChange validSerialWrong)

/-- 'lanelaw2.SnapSame': WHATEVER THE INPUT: true; the input reads as it did. -/
def snapSameSpec : ChangeSpec := { name := "snapSame", fn := fun _ => fun
  | [d] => { results := [.lit (.bool true)], args := [d] }
  | _ => none }
def snapSameRow : OpenClaim := { program := "ytccjognnehoodaf", sum := "186c307aa735311baefb13198c59854b4c4897b353f14140695322ddc6823ba2", func := "locklane/lanelaw2.SnapSame", spec := "snapSame", unfollowed := true, recurses := true, apart := false }
def SnapSameSaid : Prop := snapSameRow.holds Try.pinned (OpenSpec.ofChange snapSameSpec)

/-- ITS FALSE NEIGHBOUR: 'it returns false'. Refute it at one input. -/
def snapSameWrong : ChangeSpec := { name := "snapSame", fn := fun _ => fun
  | [d] => { results := [.lit (.bool false)], args := [d] }
  | _ => none }
def SnapSameWrongFalsely : Prop := snapSameRow.holds Try.pinned (OpenSpec.ofChange snapSameWrong)

/- THE SECOND FORM. 'bulk': how many values and letters a reading holds, each counted each time it is reached (what is shared counts as often as it is met; a slice's spare places count too). A statement '..UptoSaid' is the law's where the arguments, and the package variables that the reading takes, are together of bulk at most 1048576: NARROWER than '..Said'. Prove '..Said' where nothing that the law and all that it calls make is longer than what came in: it says more and counts as full. Else prove '..UptoSaid'. A law counts once. -/
mutual
def uptoBulk {H : Type} : DataW H → Nat
  | .lit (.string bytes) => bytes.length + 1
  | .lit _ => 1
  | .nil => 1
  | .ptr d => uptoBulk d + 1
  | .slice elems spare => uptoBulkAll elems + uptoBulkAll spare + 1
  | .agg parts => uptoBulkAll parts + 1
  | .iface _ d => uptoBulk d + 1
  | .map entries => uptoBulkEntries entries + 1
  | .held _ => 1
def uptoBulkAll {H : Type} : List (DataW H) → Nat
  | [] => 0
  | d :: r => uptoBulk d + uptoBulkAll r
def uptoBulkEntries {H : Type} : List (Lit × DataW H) → Nat
  | [] => 0
  | x :: r => uptoBulkEntry x + uptoBulkEntries r
def uptoBulkEntry {H : Type} : Lit × DataW H → Nat
  | (.string bytes, d) => bytes.length + uptoBulk d + 1
  | (_, d) => uptoBulk d + 1
 end
def uptoSmall : (H : Type) → List (DataW H) → Bool := fun _ ds => decide (uptoBulkAll ds ≤ 1048576)
def OpenSpec.upto (s : _root_.Go.ChangeSpec) : _root_.Go.OpenSpec := { _root_.Go.OpenSpec.ofChange s with cond := some uptoSmall }

/-- 'lanelaw2.StampOrders', WHERE WHAT IT READS IS OF BULK AT MOST 1048576: true; the input reads as it did. -/
def stampOrdersUptoRow : OpenClaim := { program := "ytccjognnehoodaf", sum := "186c307aa735311baefb13198c59854b4c4897b353f14140695322ddc6823ba2", func := "locklane/lanelaw2.StampOrders", spec := "stampOrders", unfollowed := true, recurses := true, apart := false, narrowed := true }
def StampOrdersUptoSaid : Prop := stampOrdersUptoRow.holds Try.pinned (OpenSpec.upto stampOrdersSpec)

/-- 'lanelaw4.StampRising', WHERE WHAT IT READS IS OF BULK AT MOST 1048576: true; the input reads as it did. -/
def stampRisingUptoRow : OpenClaim := { program := "ytccjognnehoodaf", sum := "186c307aa735311baefb13198c59854b4c4897b353f14140695322ddc6823ba2", func := "locklane/lanelaw4.StampRising", spec := "stampRising", apart := false, narrowed := true }
def StampRisingUptoSaid : Prop := stampRisingUptoRow.holds Try.pinned (OpenSpec.upto stampRisingSpec)

/-- 'lanelaw2.ValidSerial', WHERE WHAT IT READS IS OF BULK AT MOST 1048576: true; the input reads as it did. -/
def validSerialUptoRow : OpenClaim := { program := "ytccjognnehoodaf", sum := "186c307aa735311baefb13198c59854b4c4897b353f14140695322ddc6823ba2", func := "locklane/lanelaw2.ValidSerial", spec := "validSerial", unfollowed := true, recurses := true, apart := false, narrowed := true }
def ValidSerialUptoSaid : Prop := validSerialUptoRow.holds Try.pinned (OpenSpec.upto validSerialSpec)

/-- 'lanelaw2.SnapSame', WHERE WHAT IT READS IS OF BULK AT MOST 1048576: true; the input reads as it did. -/
def snapSameUptoRow : OpenClaim := { program := "ytccjognnehoodaf", sum := "186c307aa735311baefb13198c59854b4c4897b353f14140695322ddc6823ba2", func := "locklane/lanelaw2.SnapSame", spec := "snapSame", unfollowed := true, recurses := true, apart := false, narrowed := true }
def SnapSameUptoSaid : Prop := snapSameUptoRow.holds Try.pinned (OpenSpec.upto snapSameSpec)

end Rows
end Go.Proofs.Ytccjognnehoodaf
