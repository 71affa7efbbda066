/-
  PROVED HERE: nothing yet of package play: what play.Values is asked to answer (ValuesOk), for the laws that call it.
  Conditions: none.
-/
import Derived.Test.YtggieffpehbfaaaDoorPlayPlain
import Derived.Test.YtggieffpehbfaaaDoorOps
import Derived.Test.YtggieffpehbfaaaDoorIntRow
namespace Go.Proofs.YtggieffpehbfaaaDoor
open Go.RowKit

/-- What play.Values answers at a right list. -/
def ValuesOk : Prop := ∀ (l : List Op3) (v : Value) (w : World), IsOps w v l → (chk l).2 = 0 →
  Calls Tryd.prog 18 #[v] w fun e w' => ∃ v', e = .returned (.tuple #[v', .nilIface]) ∧ IsInts w' v' (valsL (doneL l)) ∧ Below w.heap.size w w'

theorem vals_few (d : List Op3) : (valsL d).length ≤ 140737488351 := by
  unfold valsL; simp
end Go.Proofs.YtggieffpehbfaaaDoor
