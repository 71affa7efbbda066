/-
  PROVED HERE: plain facts, with no word of the program: rings of so many that go on from a beginning, the first by numbers.
  Conditions: none.
  (Of these, what the claim wants: the rest was left out.)
-/
import Derived.Test.YtmjjiehnjghndaaGraphWay
namespace Go.Proofs.Ytmjjiehnjghndaa

def lastN (r : List Nat) : Nat := r.getLastD 0
def headN (r : List Nat) : Nat := r.headD 0
end Go.Proofs.Ytmjjiehnjghndaa
