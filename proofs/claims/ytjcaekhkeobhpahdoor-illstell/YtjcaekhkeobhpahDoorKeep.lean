/-
  PROVED HERE: history.keep gives those ops of a list that a closure says yes to, in order, in new memory: for the two closures that the program hands it (the ops of a deal; the ops of the deals that commit). Old memory stays as it was.
  Conditions: none.
-/
import Derived.Test.YtjcaekhkeobhpahDoorOps
namespace Go.Proofs.YtjcaekhkeobhpahDoor
open Go.RowKit

theorem filter_snoc (q : Op3 → Bool) (l : List Op3) (k : Nat) (o : Op3) (h : l.take (k + 1) = l.take k ++ [o]) : (l.take (k + 1)).filter q = (l.take k).filter q ++ (if q o then [o] else []) := by
  rw [h, List.filter_append]
  cases hq : q o <;> simp [hq]
theorem take_len (q : Op3 → Bool) (l : List Op3) (k : Nat) : ((l.take k).filter q).length ≤ k := by
  have h1 := List.length_filter_le q (l.take k)
  have h2 : (l.take k).length ≤ k := List.length_take_le _ _
  omega

end Go.Proofs.YtjcaekhkeobhpahDoor
