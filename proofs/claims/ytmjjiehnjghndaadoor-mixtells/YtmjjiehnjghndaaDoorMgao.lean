/-
  PROVED HERE: plain facts on lists, with no word of the program: the place of a deal's n-th op; the names of ops (an op, and which of its deal's ops it is); two lists have the same names just if they have the same ops of each deal, in the same order; and then an op's place is where its name stands.
  Conditions: none.
  (Of these, what the claim wants: the rest was left out.)
  PROVED HERE: plain facts, with no word of the program: what is done, deal by deal along an order of its deals, is right, done, and has the same ops of each deal.
  Conditions: none.
  (Of these, what the claim wants: the rest was left out.)
-/
import Derived.Test.YtmjjiehnjghndaaDoorMgae
import Derived.Test.YtmjjiehnjghndaaDoorMgak
import Derived.Test.YtmjjiehnjghndaaDoorMgam
namespace Go.Proofs.YtmjjiehnjghndaaDoor

/-- The place of a deal's n-th op. -/
def placeOf : List Op3 → Int → Nat → Option Nat
  | [], _, _ => none
  | o :: r, t, n => if o.1 = t then (if n = 0 then some 0 else (placeOf r t (n - 1)).map (· + 1)) else (placeOf r t n).map (· + 1)
/-- Which of its deal's ops an op is. -/
def nthAt (l : List Op3) (i : Nat) : Nat := (ofL (l.take i) (opAt l i).1).length
theorem ofL_cons (o : Op3) (r : List Op3) (t : Int) : ofL (o :: r) t = if o.1 = t then o :: ofL r t else ofL r t := by
  unfold ofL
  rw [List.filter_cons]
  by_cases h : o.1 = t <;> simp [h]
theorem ofL_append (l m : List Op3) (t : Int) : ofL (l ++ m) t = ofL l t ++ ofL m t := by simp [ofL]
/-- Where an op of the one stands in the other; 0 if nowhere. -/
def spot (h g : List Op3) (i : Nat) : Nat := (placeOf g (opAt h i).1 (nthAt h i)).getD 0
end Go.Proofs.YtmjjiehnjghndaaDoor

namespace Go.Proofs.YtmjjiehnjghndaaDoor

theorem calm_of : ∀ {l : List Op3}, (∀ t, Calm (ofL l t)) → Calm l := by
  intro l
  induction l with
  | nil => intro _; exact List.Pairwise.nil
  | cons a r ih =>
    intro h
    refine List.pairwise_cons.2 ⟨fun b hb => ?_, ih fun t => ?_⟩
    · have h1 := h a.1
      rw [ofL_cons, if_pos rfl] at h1
      rintro ⟨e, h2⟩
      exact (List.pairwise_cons.1 h1).1 b (List.mem_filter.2 ⟨hb, by simp [e]⟩) ⟨e, h2⟩
    · have h1 := h t
      rw [ofL_cons] at h1
      split at h1
      · exact (List.pairwise_cons.1 h1).2
      · exact h1
theorem Doing.done {s : List Op3} (h : Doing s) : doneL s = s := by
  unfold doneL
  refine List.filter_eq_self.2 fun x hx => ?_
  obtain ⟨p, hp, h1, h2⟩ := h.ends x hx
  have := h.deal x hx
  unfold commIn
  exact List.any_eq_true.2 ⟨p, hp, by simp [h1, h2]; omega⟩
end Go.Proofs.YtmjjiehnjghndaaDoor
