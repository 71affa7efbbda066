/-
  PROVED HERE: plain facts, with no word of the program: the order of all deals, the least that could be next first, is that of the deals that edges name, with the others woven in, each as soon as it is less than the next one.
  Conditions: none.
  (Of these, what the claim wants: the rest was left out.)
-/
import Derived.Test.YtmjjiehnjghndaaSerPlain
namespace Go.Proofs.Ytmjjiehnjghndaa

/-- Free deals, rising, between those of an order. -/
def weaveL : List Int → List Int → List Int
  | [], fr => fr
  | b :: bs, fr => fr.takeWhile (fun x => decide (x < b)) ++ b :: weaveL bs (fr.dropWhile fun x => decide (x < b))
theorem weave_take {b f : Int} {bs fr : List Int} (h : f < b) : weaveL (b :: bs) (f :: fr) = f :: weaveL (b :: bs) fr := by simp [weaveL, h]
theorem weave_pass {b f : Int} {bs fr : List Int} (h : ¬ f < b) : weaveL (b :: bs) (f :: fr) = b :: weaveL bs (f :: fr) := by simp [weaveL, h]
theorem weave_len (b : List Int) : ∀ fr, (weaveL b fr).length = b.length + fr.length := by
  induction b with
  | nil => intro fr; simp [weaveL]
  | cons a r ih =>
    intro fr
    have h1 := List.takeWhile_append_dropWhile (p := fun x => decide (x < a)) (l := fr)
    have h2 := congrArg List.length h1
    rw [List.length_append] at h2
    simp only [weaveL, List.length_append, List.length_cons, ih]
    omega
end Go.Proofs.Ytmjjiehnjghndaa
