/-
  PROVED HERE: nothing yet of package play: what play.Seen is asked to answer, and what both answer at a wrong list, for the laws that call them.
  Conditions: none.
-/
import Derived.Test.YtgnbejemhdcemacPlayAsk
namespace Go.Proofs.Ytgnbejemhdcemac
open Go.RowKit

/-- What both answer at a wrong one. -/
def ValuesBad : Prop := ∀ (l : List Op3) (v : Value) (w : World), IsOps w v l → (chk l).2 ≠ 0 →
  Calls Try.prog 13 #[v] w fun e w' => e = .returned (.tuple #[.slice none 0 0, .iface 70 (.int .i64 (chk l).2)]) ∧ Below w.heap.size w w'
end Go.Proofs.Ytgnbejemhdcemac
