/-
  PROVED HERE: history.Deals gives the deals that have an op, rising, of a list that is right; of any other Check's error. Old memory stays as it was.
  Conditions: none.
-/
import Derived.Test.YtjcaekhkeobhpahDoorDone
import Derived.Test.YtjcaekhkeobhpahDoorIntRow
namespace Go.Proofs.YtjcaekhkeobhpahDoor
open Go.RowKit

def hasB (l : List Op3) (t : Int) : Bool := l.any fun o => o.1 == t
def dealsTo (l : List Op3) : Nat → List Int
  | 0 => []
  | n + 1 => dealsTo l n ++ (if hasB l ((n : Int) + 1) then [(n : Int) + 1] else [])
def dealsL (l : List Op3) : List Int := dealsTo l 6
theorem dealsTo_len (l : List Op3) (n : Nat) : (dealsTo l n).length ≤ n := by
  induction n with
  | zero => simp [dealsTo]
  | succ n ih => simp only [dealsTo]; split <;> simp <;> omega

theorem hasB_drop {l : List Op3} {k : Nat} {o : Op3} (hd : l.drop k = o :: l.drop (k + 1)) (t : Int) : hasB (l.drop k) t = (o.1 == t || hasB (l.drop (k + 1)) t) := by
  rw [hd]; rfl
end Go.Proofs.YtjcaekhkeobhpahDoor
