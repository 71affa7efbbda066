/-
  PROVED HERE: nothing: how a block of a code is found by its number.
  Conditions: none.
-/
import Derived.Test.YtggieffpehbfaaaDoorProg
import Derived.WalkKit
namespace Go.Proofs.YtggieffpehbfaaaDoor
open Go.RowKit

/-- A block of a code, by its number. -/
def blkOfK (n : Nat) : Code → Option Code
  | .block i c => if i = n then some (.block i c) else blkOfK n c
  | .seq a b => match blkOfK n a with
    | some c => some c
    | none => blkOfK n b
  | .loop c => blkOfK n c
  | .cond _ a b => match blkOfK n a with
    | some c => some c
    | none => blkOfK n b
  | .scope c => blkOfK n c
  | _ => none
/-- A region of a code, by its number. -/
def regOfK (n : Nat) : Code → Option Code
  | .region i l d => if i = n then some (.region i l d) else none
  | .block _ c => regOfK n c
  | .seq a b => match regOfK n a with
    | some c => some c
    | none => regOfK n b
  | .loop c => regOfK n c
  | .cond _ a b => match regOfK n a with
    | some c => some c
    | none => regOfK n b
  | .scope c => regOfK n c
  | _ => none
end Go.Proofs.YtggieffpehbfaaaDoor
