/-
  PROVED HERE: plain facts on lists, with no word of the program: the place of a deal's n-th op; the names of ops (an op, and which of its deal's ops it is); two lists have the same names just if they have the same ops of each deal, in the same order; and then an op's place is where its name stands.
  Conditions: none.
  (Of these, what the claim wants: the rest was left out.)
-/
import Derived.Test.YtmjjiehnjghndaaOddPlain
import Derived.Test.YtmjjiehnjghndaaBack
namespace Go.Proofs.Ytmjjiehnjghndaa

theorem ofL_cons (o : Op3) (r : List Op3) (t : Int) : ofL (o :: r) t = if o.1 = t then o :: ofL r t else ofL r t := by
  unfold ofL
  rw [List.filter_cons]
  by_cases h : o.1 = t <;> simp [h]
theorem ofL_append (l m : List Op3) (t : Int) : ofL (l ++ m) t = ofL l t ++ ofL m t := by simp [ofL]
end Go.Proofs.Ytmjjiehnjghndaa
