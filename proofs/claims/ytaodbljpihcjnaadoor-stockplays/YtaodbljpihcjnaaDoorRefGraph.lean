/-
  PROVED HERE: laneref1.Tx and Graph answer as plain functions on numbers and edges say. Nothing turns.
  Conditions: none.
  (Of these, what the claim wants: the rest was left out.)
-/
import Derived.Test.YtaodbljpihcjnaaDoorGraphBools
import Derived.Test.YtaodbljpihcjnaaDoorRefIn
namespace Go.Proofs.YtaodbljpihcjnaaDoor
open Go.RowKit

theorem gTx_any (t : Int) (w : World) : Calls Tryd.prog 6 #[.int .i64 t] w fun e w' => e = .returned (.bool (dealB t)) ∧ w' = w := by
  go_enter Tryd.func6, Tryd.ntmps6
  go_wp2
  all_goals go_ret
  all_goals exact ⟨retB (by simp_all [dealB] <;> omega), rfl⟩
end Go.Proofs.YtaodbljpihcjnaaDoor
