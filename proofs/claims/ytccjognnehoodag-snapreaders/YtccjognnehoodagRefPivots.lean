/-
  PROVED HERE: laneref2.Pivots tells, rising, the deals from which and to which an edge leads. Old memory stays as it was.
  Conditions: none.
-/
import Derived.Test.YtccjognnehoodagMgad
import Derived.Test.YtccjognnehoodagMgaj
import Derived.Maps.AppendAt
namespace Go.Proofs.Ytccjognnehoodag
open Go.RowKit

/-- Do edges lead to it, and from it? -/
def pivAt (l : List Edge2) (d : Int) : Bool := (l.any fun e => e.2 == d) && (l.any fun e => e.1 == d)
/-- Those of the first n deals that are between. -/
def pivTo (l : List Edge2) (n : Nat) : List Int := ((List.range n).map fun (k : Nat) => (k : Int) + 1).filter (pivAt l)
theorem pivTo_succ (l : List Edge2) (n : Nat) : pivTo l (n + 1) = pivTo l n ++ (if pivAt l ((n : Int) + 1) = true then [(n : Int) + 1] else []) := by
  unfold pivTo
  rw [List.range_succ, List.map_append, List.filter_append]
  by_cases h : pivAt l ((n : Int) + 1) = true <;> simp [h]
theorem pivTo_len (l : List Edge2) (n : Nat) : (pivTo l n).length ≤ n := by
  unfold pivTo
  refine Nat.le_trans (List.length_filter_le ..) ?_
  simp
theorem any_step {l : List Edge2} {k : Nat} (hk : k < l.length) (f : Edge2 → Bool) : (l.take (k + 1)).any f = ((l.take k).any f || f (l.getD k (0, 0))) := by
  rw [List.take_succ_eq_append_getElem hk]
  have : l[k] = l.getD k (0, 0) := by simp [List.getD, List.getElem?_eq_getElem hk]
  simp [this]
end Go.Proofs.Ytccjognnehoodag
