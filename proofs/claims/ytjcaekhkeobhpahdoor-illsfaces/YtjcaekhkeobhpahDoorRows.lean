/-
  NARROWER THAN 'FOR EVERY INPUT', by the rows' own cells (each row's printed sentence says how): IllsTell: laid · IllsFaces: laid · IllsSerial: laid.
  DERIVED. THE GIVEN ROWS OF THIS SEAT. 3 by the template 'for every input the law returns true; each argument reads behind the call as it read before'; 0 by the template 'total and deterministic' (their statements: YtjcaekhkeobhpahDoorTotals.lean).
  GIVEN WITH THE SEED: the statements are not yours to turn. If you find one false, say at which input.
  Laid BY PROGRAM, IN A SANDBOX (cutbox-rows.mjs): the forced cells as the released guide's own fill.sh prints them over the translation fe7b0d8b4210ac8c… (all of the seat's roots in one cut). By AI agents, Wed Nov 11 2026. No macro, syntax, notation, axiom, sorry.
-/
import Derived.Test.YtjcaekhkeobhpahDoorChecked
import GoSem.Claim
import GoSem.ClaimJoined
import GoSem.ClaimMapViews
import Derived.JoinedTies
import Derived.KernelRfl
namespace Go.Proofs.YtjcaekhkeobhpahDoor
/- THE CELL 'sum', in the pinned program and in every row, IS THE sha256 OF THE DUMP (.gsa) THAT YtjcaekhkeobhpahDoorProg.lean LOADS. Nothing in Lean hashes anything: it is a label: what it is worth is what the hold of that sum in a sandbox is worth. -/
noncomputable def Tryd.pinned : Pinned := { name := "ytjcaekhkeobhpahdoor", sum := "fe7b0d8b4210ac8c0baa3f781bc03a41908dc0e7bbab1594b0f68d6073e68b13", checked := Tryd.checked }
namespace Rows
def none {H : Type} : Left H := { results := [], args := [] }

/- WHAT THE LISTED PACKAGE-LEVEL VARIABLES READ AS WHEN THE CALL BEGINS. Each datum BY PROGRAM (the guide's laid-datum.mjs) off the statement by which the dump's own 'gosem.cut.vars' lays the variable. In a bare row this is a premise. The card (YtjcaekhkeobhpahDoorCards.lean) ties it to the program's text. -/
def laid_errors_errorType {H : Type} : DataW H := .iface "internal/reflectlite.rtype" (.agg [.ptr (.lit (.string [101, 114, 114, 111, 114]))])

/-- 'lanelaw3.IllsTell': WHATEVER THE INPUT: true; the input reads as it did. -/
def illsTellSpec : ChangeSpec := { name := "illsTell", fn := fun _ => fun
  | [d] => { results := [.lit (.bool true)], args := [d] }
  | _ => none }
def illsTellRow : OpenClaim := { program := "ytjcaekhkeobhpahdoor", sum := "fe7b0d8b4210ac8c0baa3f781bc03a41908dc0e7bbab1594b0f68d6073e68b13", func := "locklane/lanelaw3.IllsTell", spec := "illsTell", inPlace := ["internal/reflectlite.ValueOf", "(internal/reflectlite.Value).Type", "(internal/reflectlite.Value).IsNil", "internal/reflectlite.TypeOf", "(internal/reflectlite.Value).Elem", "(internal/reflectlite.Value).Set"], unfollowed := true, recurses := true, named := ["errors.errorType"], apart := false, laid := [("errors.errorType", laid_errors_errorType)] }
def IllsTellSaid : Prop := illsTellRow.holds Tryd.pinned (OpenSpec.ofChange illsTellSpec)

/-- ITS FALSE NEIGHBOUR: 'it returns false'. Refute it at one input. -/
def illsTellWrong : ChangeSpec := { name := "illsTell", fn := fun _ => fun
  | [d] => { results := [.lit (.bool false)], args := [d] }
  | _ => none }
def IllsTellWrongFalsely : Prop := illsTellRow.holds Tryd.pinned (OpenSpec.ofChange illsTellWrong)

/-- 'lanelaw3.IllsFaces': WHATEVER THE INPUT: true; the input reads as it did. -/
def illsFacesSpec : ChangeSpec := { name := "illsFaces", fn := fun _ => fun
  | [d] => { results := [.lit (.bool true)], args := [d] }
  | _ => none }
def illsFacesRow : OpenClaim := { program := "ytjcaekhkeobhpahdoor", sum := "fe7b0d8b4210ac8c0baa3f781bc03a41908dc0e7bbab1594b0f68d6073e68b13", func := "locklane/lanelaw3.IllsFaces", spec := "illsFaces", inPlace := ["internal/reflectlite.ValueOf", "(internal/reflectlite.Value).Type", "(internal/reflectlite.Value).IsNil", "internal/reflectlite.TypeOf", "(internal/reflectlite.Value).Elem", "(internal/reflectlite.Value).Set"], unfollowed := true, recurses := true, named := ["errors.errorType"], apart := false, laid := [("errors.errorType", laid_errors_errorType)] }
def IllsFacesSaid : Prop := illsFacesRow.holds Tryd.pinned (OpenSpec.ofChange illsFacesSpec)

/-- ITS FALSE NEIGHBOUR: 'it returns false'. Refute it at one input. -/
def illsFacesWrong : ChangeSpec := { name := "illsFaces", fn := fun _ => fun
  | [d] => { results := [.lit (.bool false)], args := [d] }
  | _ => none }
def IllsFacesWrongFalsely : Prop := illsFacesRow.holds Tryd.pinned (OpenSpec.ofChange illsFacesWrong)

/-- 'lanelaw4.IllsSerial': WHATEVER THE INPUT: true; the input reads as it did. -/
def illsSerialSpec : ChangeSpec := { name := "illsSerial", fn := fun _ => fun
  | [d1, d2, d3] => { results := [.lit (.bool true)], args := [d1, d2, d3] }
  | _ => none }
def illsSerialRow : OpenClaim := { program := "ytjcaekhkeobhpahdoor", sum := "fe7b0d8b4210ac8c0baa3f781bc03a41908dc0e7bbab1594b0f68d6073e68b13", func := "locklane/lanelaw4.IllsSerial", spec := "illsSerial", inPlace := ["internal/reflectlite.ValueOf", "(internal/reflectlite.Value).Type", "(internal/reflectlite.Value).IsNil", "internal/reflectlite.TypeOf", "(internal/reflectlite.Value).Elem", "(internal/reflectlite.Value).Set"], unfollowed := true, recurses := true, named := ["errors.errorType"], apart := false, laid := [("errors.errorType", laid_errors_errorType)] }
def IllsSerialSaid : Prop := illsSerialRow.holds Tryd.pinned (OpenSpec.ofChange illsSerialSpec)

/-- ITS FALSE NEIGHBOUR: 'it returns false'. Refute it at one input. -/
def illsSerialWrong : ChangeSpec := { name := "illsSerial", fn := fun _ => fun
  | [d1, d2, d3] => { results := [.lit (.bool false)], args := [d1, d2, d3] }
  | _ => none }
def IllsSerialWrongFalsely : Prop := illsSerialRow.holds Tryd.pinned (OpenSpec.ofChange illsSerialWrong)

/- THE SECOND FORM. 'bulk': how many values and letters a reading holds, each counted each time it is reached (what is shared counts as often as it is met; a slice's spare places count too). A statement '..UptoSaid' is the law's where the arguments, and the package variables that the reading takes, are together of bulk at most 1048576: NARROWER than '..Said'. Prove '..Said' where nothing that the law and all that it calls make is longer than what came in: it says more and counts as full. Else prove '..UptoSaid'. A law counts once. -/
mutual
def uptoBulk {H : Type} : DataW H → Nat
  | .lit (.string bytes) => bytes.length + 1
  | .lit _ => 1
  | .nil => 1
  | .ptr d => uptoBulk d + 1
  | .slice elems spare => uptoBulkAll elems + uptoBulkAll spare + 1
  | .agg parts => uptoBulkAll parts + 1
  | .iface _ d => uptoBulk d + 1
  | .map entries => uptoBulkEntries entries + 1
  | .held _ => 1
def uptoBulkAll {H : Type} : List (DataW H) → Nat
  | [] => 0
  | d :: r => uptoBulk d + uptoBulkAll r
def uptoBulkEntries {H : Type} : List (Lit × DataW H) → Nat
  | [] => 0
  | x :: r => uptoBulkEntry x + uptoBulkEntries r
def uptoBulkEntry {H : Type} : Lit × DataW H → Nat
  | (.string bytes, d) => bytes.length + uptoBulk d + 1
  | (_, d) => uptoBulk d + 1
 end
def uptoSmall : (H : Type) → List (DataW H) → Bool := fun _ ds => decide (uptoBulkAll ds ≤ 1048576)
def OpenSpec.upto (s : _root_.Go.ChangeSpec) : _root_.Go.OpenSpec := { _root_.Go.OpenSpec.ofChange s with cond := some uptoSmall }

/-- 'lanelaw3.IllsTell', WHERE WHAT IT READS IS OF BULK AT MOST 1048576: true; the input reads as it did. -/
def illsTellUptoRow : OpenClaim := { program := "ytjcaekhkeobhpahdoor", sum := "fe7b0d8b4210ac8c0baa3f781bc03a41908dc0e7bbab1594b0f68d6073e68b13", func := "locklane/lanelaw3.IllsTell", spec := "illsTell", inPlace := ["internal/reflectlite.ValueOf", "(internal/reflectlite.Value).Type", "(internal/reflectlite.Value).IsNil", "internal/reflectlite.TypeOf", "(internal/reflectlite.Value).Elem", "(internal/reflectlite.Value).Set"], unfollowed := true, recurses := true, named := ["errors.errorType"], apart := false, laid := [("errors.errorType", laid_errors_errorType)], narrowed := true }
def IllsTellUptoSaid : Prop := illsTellUptoRow.holds Tryd.pinned (OpenSpec.upto illsTellSpec)

/-- 'lanelaw3.IllsFaces', WHERE WHAT IT READS IS OF BULK AT MOST 1048576: true; the input reads as it did. -/
def illsFacesUptoRow : OpenClaim := { program := "ytjcaekhkeobhpahdoor", sum := "fe7b0d8b4210ac8c0baa3f781bc03a41908dc0e7bbab1594b0f68d6073e68b13", func := "locklane/lanelaw3.IllsFaces", spec := "illsFaces", inPlace := ["internal/reflectlite.ValueOf", "(internal/reflectlite.Value).Type", "(internal/reflectlite.Value).IsNil", "internal/reflectlite.TypeOf", "(internal/reflectlite.Value).Elem", "(internal/reflectlite.Value).Set"], unfollowed := true, recurses := true, named := ["errors.errorType"], apart := false, laid := [("errors.errorType", laid_errors_errorType)], narrowed := true }
def IllsFacesUptoSaid : Prop := illsFacesUptoRow.holds Tryd.pinned (OpenSpec.upto illsFacesSpec)

/-- 'lanelaw4.IllsSerial', WHERE WHAT IT READS IS OF BULK AT MOST 1048576: true; the input reads as it did. -/
def illsSerialUptoRow : OpenClaim := { program := "ytjcaekhkeobhpahdoor", sum := "fe7b0d8b4210ac8c0baa3f781bc03a41908dc0e7bbab1594b0f68d6073e68b13", func := "locklane/lanelaw4.IllsSerial", spec := "illsSerial", inPlace := ["internal/reflectlite.ValueOf", "(internal/reflectlite.Value).Type", "(internal/reflectlite.Value).IsNil", "internal/reflectlite.TypeOf", "(internal/reflectlite.Value).Elem", "(internal/reflectlite.Value).Set"], unfollowed := true, recurses := true, named := ["errors.errorType"], apart := false, laid := [("errors.errorType", laid_errors_errorType)], narrowed := true }
def IllsSerialUptoSaid : Prop := illsSerialUptoRow.holds Tryd.pinned (OpenSpec.upto illsSerialSpec)

end Rows
end Go.Proofs.YtjcaekhkeobhpahDoor
