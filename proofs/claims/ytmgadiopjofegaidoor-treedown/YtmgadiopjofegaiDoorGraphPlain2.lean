/-
  PROVED HERE: plain facts, with no word of the program: the least deal that waits for nobody who is waiting; the order that is made of such ones, one behind the other.
  Conditions: none.
  (Of these, what the claim wants: the rest was left out.)
-/
import Derived.Test.YtmgadiopjofegaiDoorGraphPlain
namespace Go.Proofs.YtmgadiopjofegaiDoor

def setS (s : Set7) (t : Nat) (x : Bool) : Set7 := fun k => if k = t then x else s k
end Go.Proofs.YtmgadiopjofegaiDoor
