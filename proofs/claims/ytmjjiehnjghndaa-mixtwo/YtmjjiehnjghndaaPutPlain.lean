/-
  PROVED HERE: plain facts, with no word of the program: a number put into a list that rises, once; whether a number is in a list.
  Conditions: none.
  (Of these, what the claim wants: the rest was left out.)
-/
import Derived.WalkKit
namespace Go.Proofs.Ytmjjiehnjghndaa

/-- Is a number in a list? -/
def inB (l : List Int) (n : Int) : Bool := l.contains n
end Go.Proofs.Ytmjjiehnjghndaa
