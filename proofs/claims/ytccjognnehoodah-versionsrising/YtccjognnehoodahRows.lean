/-
  No cell of these rows narrows 'for every input' (looked for: loops, veiled, ifaces, maps, wideKeys, modest, calm, conditions, laid).
  DERIVED. THE GIVEN ROWS OF THIS SEAT. 2 by the template 'for every input the law returns true; each argument reads behind the call as it read before'; 0 by the template 'total and deterministic' (their statements: YtccjognnehoodahTotals.lean).
  GIVEN WITH THE SEED: the statements are not yours to turn. If you find one false, say at which input.
  Laid BY PROGRAM, IN A SANDBOX (cutbox-rows.mjs): the forced cells as the released guide's own fill.sh prints them over the translation 0cd632c5062026be… (all of the seat's roots in one cut). By AI agents, Wed Nov 11 2026. No macro, syntax, notation, axiom, sorry.
-/
import Derived.Test.YtccjognnehoodahChecked
import GoSem.Claim
import GoSem.ClaimJoined
import GoSem.ClaimMapViews
import Derived.JoinedTies
import Derived.KernelRfl
namespace Go.Proofs.Ytccjognnehoodah
/- THE CELL 'sum', in the pinned program and in every row, IS THE sha256 OF THE DUMP (.gsa) THAT YtccjognnehoodahProg.lean LOADS. Nothing in Lean hashes anything: it is a label: what it is worth is what the hold of that sum in a sandbox is worth. -/
noncomputable def Try.pinned : Pinned := { name := "ytccjognnehoodah", sum := "0cd632c5062026be6a4ccc92d6979472be61808f076eae35f1a922a5041e38cf", checked := Try.checked }
namespace Rows
def none {H : Type} : Left H := { results := [], args := [] }

/-- 'lanelaw2.VersionsSerial': WHATEVER THE INPUT: true; the input reads as it did. -/
def versionsSerialSpec : ChangeSpec := { name := "versionsSerial", fn := fun _ => fun
  | [d] => { results := [.lit (.bool true)], args := [d] }
  | _ => none }
def versionsSerialRow : OpenClaim := { program := "ytccjognnehoodah", sum := "0cd632c5062026be6a4ccc92d6979472be61808f076eae35f1a922a5041e38cf", func := "locklane/lanelaw2.VersionsSerial", spec := "versionsSerial", unfollowed := true, recurses := true, apart := false }
def VersionsSerialSaid : Prop := versionsSerialRow.holds Try.pinned (OpenSpec.ofChange versionsSerialSpec)

/-- ITS FALSE NEIGHBOUR: 'it returns false'. Refute it at one input. -/
def versionsSerialWrong : ChangeSpec := { name := "versionsSerial", fn := fun _ => fun
  | [d] => { results := [.lit (.bool false)], args := [d] }
  | _ => none }
def VersionsSerialWrongFalsely : Prop := versionsSerialRow.holds Try.pinned (OpenSpec.ofChange versionsSerialWrong)

/-- 'lanelaw4.VersionsRising': WHATEVER THE INPUT: true; the input reads as it did. -/
def versionsRisingSpec : ChangeSpec := { name := "versionsRising", fn := fun _ => fun
  | [d1, d2] => { results := [.lit (.bool true)], args := [d1, d2] }
  | _ => none }
def versionsRisingRow : OpenClaim := { program := "ytccjognnehoodah", sum := "0cd632c5062026be6a4ccc92d6979472be61808f076eae35f1a922a5041e38cf", func := "locklane/lanelaw4.VersionsRising", spec := "versionsRising", unfollowed := true, recurses := true, apart := false }
def VersionsRisingSaid : Prop := versionsRisingRow.holds Try.pinned (OpenSpec.ofChange versionsRisingSpec)

/-- ITS FALSE NEIGHBOUR: 'it returns false'. Refute it at one input. -/
def versionsRisingWrong : ChangeSpec := { name := "versionsRising", fn := fun _ => fun
  | [d1, d2] => { results := [.lit (.bool false)], args := [d1, d2] }
  | _ => none }
def VersionsRisingWrongFalsely : Prop := versionsRisingRow.holds Try.pinned (OpenSpec.ofChange versionsRisingWrong)

/- THE SECOND FORM. 'bulk': how many values and letters a reading holds, each counted each time it is reached (what is shared counts as often as it is met; a slice's spare places count too). A statement '..UptoSaid' is the law's where the arguments, and the package variables that the reading takes, are together of bulk at most 1048576: NARROWER than '..Said'. Prove '..Said' where nothing that the law and all that it calls make is longer than what came in: it says more and counts as full. Else prove '..UptoSaid'. A law counts once. -/
mutual
def uptoBulk {H : Type} : DataW H → Nat
  | .lit (.string bytes) => bytes.length + 1
  | .lit _ => 1
  | .nil => 1
  | .ptr d => uptoBulk d + 1
  | .slice elems spare => uptoBulkAll elems + uptoBulkAll spare + 1
  | .agg parts => uptoBulkAll parts + 1
  | .iface _ d => uptoBulk d + 1
  | .map entries => uptoBulkEntries entries + 1
  | .held _ => 1
def uptoBulkAll {H : Type} : List (DataW H) → Nat
  | [] => 0
  | d :: r => uptoBulk d + uptoBulkAll r
def uptoBulkEntries {H : Type} : List (Lit × DataW H) → Nat
  | [] => 0
  | x :: r => uptoBulkEntry x + uptoBulkEntries r
def uptoBulkEntry {H : Type} : Lit × DataW H → Nat
  | (.string bytes, d) => bytes.length + uptoBulk d + 1
  | (_, d) => uptoBulk d + 1
 end
def uptoSmall : (H : Type) → List (DataW H) → Bool := fun _ ds => decide (uptoBulkAll ds ≤ 1048576)
def OpenSpec.upto (s : _root_.Go.ChangeSpec) : _root_.Go.OpenSpec := { _root_.Go.OpenSpec.ofChange s with cond := some uptoSmall }

/-- 'lanelaw2.VersionsSerial', WHERE WHAT IT READS IS OF BULK AT MOST 1048576: true; the input reads as it did. -/
def versionsSerialUptoRow : OpenClaim := { program := "ytccjognnehoodah", sum := "0cd632c5062026be6a4ccc92d6979472be61808f076eae35f1a922a5041e38cf", func := "locklane/lanelaw2.VersionsSerial", spec := "versionsSerial", unfollowed := true, recurses := true, apart := false, narrowed := true }
def VersionsSerialUptoSaid : Prop := versionsSerialUptoRow.holds Try.pinned (OpenSpec.upto versionsSerialSpec)

/-- 'lanelaw4.VersionsRising', WHERE WHAT IT READS IS OF BULK AT MOST 1048576: true; the input reads as it did. -/
def versionsRisingUptoRow : OpenClaim := { program := "ytccjognnehoodah", sum := "0cd632c5062026be6a4ccc92d6979472be61808f076eae35f1a922a5041e38cf", func := "locklane/lanelaw4.VersionsRising", spec := "versionsRising", unfollowed := true, recurses := true, apart := false, narrowed := true }
def VersionsRisingUptoSaid : Prop := versionsRisingUptoRow.holds Try.pinned (OpenSpec.upto versionsRisingSpec)

end Rows
end Go.Proofs.Ytccjognnehoodah
