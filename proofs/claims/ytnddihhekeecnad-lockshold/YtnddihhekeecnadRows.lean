/-
  No cell of these rows narrows 'for every input' (looked for: loops, veiled, ifaces, maps, wideKeys, modest, calm, conditions, laid).
  DERIVED. THE GIVEN ROWS OF THIS SEAT. 5 by the template 'for every input the law returns true; each argument reads behind the call as it read before'; 0 by the template 'total and deterministic' (their statements: YtnddihhekeecnadTotals.lean).
  GIVEN WITH THE SEED: the statements are not yours to turn. If you find one false, say at which input.
  Laid BY PROGRAM, IN A SANDBOX (cutbox-rows.mjs): the forced cells as the released guide's own fill.sh prints them over the translation 22c855bd820d9947… (all of the seat's roots in one cut). By AI agents, Wed Nov 11 2026. No macro, syntax, notation, axiom, sorry.
-/
import Derived.Test.YtnddihhekeecnadChecked
import GoSem.Claim
import GoSem.ClaimJoined
import GoSem.ClaimMapViews
import Derived.JoinedTies
import Derived.KernelRfl
namespace Go.Proofs.Ytnddihhekeecnad
/- THE CELL 'sum', in the pinned program and in every row, IS THE sha256 OF THE DUMP (.gsa) THAT YtnddihhekeecnadProg.lean LOADS. Nothing in Lean hashes anything: it is a label: what it is worth is what the hold of that sum in a sandbox is worth. -/
noncomputable def Try.pinned : Pinned := { name := "ytnddihhekeecnad", sum := "22c855bd820d9947b3283c31d4e23ff36891d29fda61a6d9c4a8410ebeb8f57e", checked := Try.checked }
namespace Rows
def none {H : Type} : Left H := { results := [], args := [] }

/-- 'lanelaw1.ViewWider': WHATEVER THE INPUT: true; the input reads as it did. -/
def viewWiderSpec : ChangeSpec := { name := "viewWider", fn := fun _ => fun
  | [d1, d2] => { results := [.lit (.bool true)], args := [d1, d2] }
  | _ => none }
def viewWiderRow : OpenClaim := { program := "ytnddihhekeecnad", sum := "22c855bd820d9947b3283c31d4e23ff36891d29fda61a6d9c4a8410ebeb8f57e", func := "locklane/lanelaw1.ViewWider", spec := "viewWider", unfollowed := true, recurses := true, plainKeys := false, apart := false }
def ViewWiderSaid : Prop := viewWiderRow.holds Try.pinned (OpenSpec.ofChange viewWiderSpec)

/-- ITS FALSE NEIGHBOUR: 'it returns false'. Refute it at one input. -/
def viewWiderWrong : ChangeSpec := { name := "viewWider", fn := fun _ => fun
  | [d1, d2] => { results := [.lit (.bool false)], args := [d1, d2] }
  | _ => none }
def ViewWiderWrongFalsely : Prop := viewWiderRow.holds Try.pinned (OpenSpec.ofChange viewWiderWrong)

/-- 'lanelaw1.PlayDone': WHATEVER THE INPUT: true; the input reads as it did. -/
def playDoneSpec : ChangeSpec := { name := "playDone", fn := fun _ => fun
  | [d] => { results := [.lit (.bool true)], args := [d] }
  | _ => none }
def playDoneRow : OpenClaim := { program := "ytnddihhekeecnad", sum := "22c855bd820d9947b3283c31d4e23ff36891d29fda61a6d9c4a8410ebeb8f57e", func := "locklane/lanelaw1.PlayDone", spec := "playDone", unfollowed := true, recurses := true, plainKeys := false, apart := false }
def PlayDoneSaid : Prop := playDoneRow.holds Try.pinned (OpenSpec.ofChange playDoneSpec)

/-- ITS FALSE NEIGHBOUR: 'it returns false'. Refute it at one input. -/
def playDoneWrong : ChangeSpec := { name := "playDone", fn := fun _ => fun
  | [d] => { results := [.lit (.bool false)], args := [d] }
  | _ => none }
def PlayDoneWrongFalsely : Prop := playDoneRow.holds Try.pinned (OpenSpec.ofChange playDoneWrong)

/-- 'lanelaw4.PlayOne': WHATEVER THE INPUT: true; the input reads as it did. -/
def playOneSpec : ChangeSpec := { name := "playOne", fn := fun _ => fun
  | [d1, d2, d3] => { results := [.lit (.bool true)], args := [d1, d2, d3] }
  | _ => none }
def playOneRow : OpenClaim := { program := "ytnddihhekeecnad", sum := "22c855bd820d9947b3283c31d4e23ff36891d29fda61a6d9c4a8410ebeb8f57e", func := "locklane/lanelaw4.PlayOne", spec := "playOne", unfollowed := true, recurses := true, plainKeys := false, apart := false }
def PlayOneSaid : Prop := playOneRow.holds Try.pinned (OpenSpec.ofChange playOneSpec)

/-- ITS FALSE NEIGHBOUR: 'it returns false'. Refute it at one input. -/
def playOneWrong : ChangeSpec := { name := "playOne", fn := fun _ => fun
  | [d1, d2, d3] => { results := [.lit (.bool false)], args := [d1, d2, d3] }
  | _ => none }
def PlayOneWrongFalsely : Prop := playOneRow.holds Try.pinned (OpenSpec.ofChange playOneWrong)

/-- 'lanetop.TopSwaps': WHATEVER THE INPUT: true; the input reads as it did. -/
def topSwapsSpec : ChangeSpec := { name := "topSwaps", fn := fun _ => fun
  | [d1, d2] => { results := [.lit (.bool true)], args := [d1, d2] }
  | _ => none }
def topSwapsRow : OpenClaim := { program := "ytnddihhekeecnad", sum := "22c855bd820d9947b3283c31d4e23ff36891d29fda61a6d9c4a8410ebeb8f57e", func := "locklane/lanetop.TopSwaps", spec := "topSwaps", unfollowed := true, recurses := true, plainKeys := false, apart := false }
def TopSwapsSaid : Prop := topSwapsRow.holds Try.pinned (OpenSpec.ofChange topSwapsSpec)

/-- ITS FALSE NEIGHBOUR: 'it returns false'. Refute it at one input. -/
def topSwapsWrong : ChangeSpec := { name := "topSwaps", fn := fun _ => fun
  | [d1, d2] => { results := [.lit (.bool false)], args := [d1, d2] }
  | _ => none }
def TopSwapsWrongFalsely : Prop := topSwapsRow.holds Try.pinned (OpenSpec.ofChange topSwapsWrong)

/-- 'lanelaw1.LocksHold': WHATEVER THE INPUT: true; the input reads as it did. -/
def locksHoldSpec : ChangeSpec := { name := "locksHold", fn := fun _ => fun
  | [d1, d2] => { results := [.lit (.bool true)], args := [d1, d2] }
  | _ => none }
def locksHoldRow : OpenClaim := { program := "ytnddihhekeecnad", sum := "22c855bd820d9947b3283c31d4e23ff36891d29fda61a6d9c4a8410ebeb8f57e", func := "locklane/lanelaw1.LocksHold", spec := "locksHold", unfollowed := true, recurses := true, plainKeys := false, apart := false }
def LocksHoldSaid : Prop := locksHoldRow.holds Try.pinned (OpenSpec.ofChange locksHoldSpec)

/-- ITS FALSE NEIGHBOUR: 'it returns false'. Refute it at one input. -/
def locksHoldWrong : ChangeSpec := { name := "locksHold", fn := fun _ => fun
  | [d1, d2] => { results := [.lit (.bool false)], args := [d1, d2] }
  | _ => none }
def LocksHoldWrongFalsely : Prop := locksHoldRow.holds Try.pinned (OpenSpec.ofChange locksHoldWrong)

/- THE SECOND FORM. 'bulk': how many values and letters a reading holds, each counted each time it is reached (what is shared counts as often as it is met; a slice's spare places count too). A statement '..UptoSaid' is the law's where the arguments, and the package variables that the reading takes, are together of bulk at most 1048576: NARROWER than '..Said'. Prove '..Said' where nothing that the law and all that it calls make is longer than what came in: it says more and counts as full. Else prove '..UptoSaid'. A law counts once. -/
mutual
def uptoBulk {H : Type} : DataW H → Nat
  | .lit (.string bytes) => bytes.length + 1
  | .lit _ => 1
  | .nil => 1
  | .ptr d => uptoBulk d + 1
  | .slice elems spare => uptoBulkAll elems + uptoBulkAll spare + 1
  | .agg parts => uptoBulkAll parts + 1
  | .iface _ d => uptoBulk d + 1
  | .map entries => uptoBulkEntries entries + 1
  | .held _ => 1
def uptoBulkAll {H : Type} : List (DataW H) → Nat
  | [] => 0
  | d :: r => uptoBulk d + uptoBulkAll r
def uptoBulkEntries {H : Type} : List (Lit × DataW H) → Nat
  | [] => 0
  | x :: r => uptoBulkEntry x + uptoBulkEntries r
def uptoBulkEntry {H : Type} : Lit × DataW H → Nat
  | (.string bytes, d) => bytes.length + uptoBulk d + 1
  | (_, d) => uptoBulk d + 1
 end
def uptoSmall : (H : Type) → List (DataW H) → Bool := fun _ ds => decide (uptoBulkAll ds ≤ 1048576)
def OpenSpec.upto (s : _root_.Go.ChangeSpec) : _root_.Go.OpenSpec := { _root_.Go.OpenSpec.ofChange s with cond := some uptoSmall }

/-- 'lanelaw1.ViewWider', WHERE WHAT IT READS IS OF BULK AT MOST 1048576: true; the input reads as it did. -/
def viewWiderUptoRow : OpenClaim := { program := "ytnddihhekeecnad", sum := "22c855bd820d9947b3283c31d4e23ff36891d29fda61a6d9c4a8410ebeb8f57e", func := "locklane/lanelaw1.ViewWider", spec := "viewWider", unfollowed := true, recurses := true, plainKeys := false, apart := false, narrowed := true }
def ViewWiderUptoSaid : Prop := viewWiderUptoRow.holds Try.pinned (OpenSpec.upto viewWiderSpec)

/-- 'lanelaw1.PlayDone', WHERE WHAT IT READS IS OF BULK AT MOST 1048576: true; the input reads as it did. -/
def playDoneUptoRow : OpenClaim := { program := "ytnddihhekeecnad", sum := "22c855bd820d9947b3283c31d4e23ff36891d29fda61a6d9c4a8410ebeb8f57e", func := "locklane/lanelaw1.PlayDone", spec := "playDone", unfollowed := true, recurses := true, plainKeys := false, apart := false, narrowed := true }
def PlayDoneUptoSaid : Prop := playDoneUptoRow.holds Try.pinned (OpenSpec.upto playDoneSpec)

/-- 'lanelaw4.PlayOne', WHERE WHAT IT READS IS OF BULK AT MOST 1048576: true; the input reads as it did. -/
def playOneUptoRow : OpenClaim := { program := "ytnddihhekeecnad", sum := "22c855bd820d9947b3283c31d4e23ff36891d29fda61a6d9c4a8410ebeb8f57e", func := "locklane/lanelaw4.PlayOne", spec := "playOne", unfollowed := true, recurses := true, plainKeys := false, apart := false, narrowed := true }
def PlayOneUptoSaid : Prop := playOneUptoRow.holds Try.pinned (OpenSpec.upto playOneSpec)

/-- 'lanetop.TopSwaps', WHERE WHAT IT READS IS OF BULK AT MOST 1048576: true; the input reads as it did. -/
def topSwapsUptoRow : OpenClaim := { program := "ytnddihhekeecnad", sum := "22c855bd820d9947b3283c31d4e23ff36891d29fda61a6d9c4a8410ebeb8f57e", func := "locklane/lanetop.TopSwaps", spec := "topSwaps", unfollowed := true, recurses := true, plainKeys := false, apart := false, narrowed := true }
def TopSwapsUptoSaid : Prop := topSwapsUptoRow.holds Try.pinned (OpenSpec.upto topSwapsSpec)

/-- 'lanelaw1.LocksHold', WHERE WHAT IT READS IS OF BULK AT MOST 1048576: true; the input reads as it did. -/
def locksHoldUptoRow : OpenClaim := { program := "ytnddihhekeecnad", sum := "22c855bd820d9947b3283c31d4e23ff36891d29fda61a6d9c4a8410ebeb8f57e", func := "locklane/lanelaw1.LocksHold", spec := "locksHold", unfollowed := true, recurses := true, plainKeys := false, apart := false, narrowed := true }
def LocksHoldUptoSaid : Prop := locksHoldUptoRow.holds Try.pinned (OpenSpec.upto locksHoldSpec)

end Rows
end Go.Proofs.Ytnddihhekeecnad
