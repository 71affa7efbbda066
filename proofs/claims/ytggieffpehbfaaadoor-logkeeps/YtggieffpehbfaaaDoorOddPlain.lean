/-
  PROVED HERE: plain facts on lists of ops, with no word of the program: which two are at odds, the pairs of places that are, how such a list grows by one, how long it is at most.
  Conditions: none.
  (Of these, what the claim wants: the rest was left out.)
-/
import Derived.Test.YtggieffpehbfaaaDoorPlain
namespace Go.Proofs.YtggieffpehbfaaaDoor

/-- Two ops are at odds. -/
def oddB (o p : Op3) : Bool := o.1 != p.1 && (o.2.2 == p.2.2 && (o.2.1 == 2 || p.2.1 == 2))
def opAt (l : List Op3) (i : Nat) : Op3 := l.getD i (0, 0, 0)
theorem opAt_mem {l : List Op3} {i : Nat} (h : i < l.length) : opAt l i ∈ l := by
  unfold opAt
  simp [List.getD, List.getElem?_eq_getElem h]
end Go.Proofs.YtggieffpehbfaaaDoor
