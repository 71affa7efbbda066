/-
  PROVED HERE: plain facts, with no word of the program: what is done, deal by deal along an order of its deals, is right, done, and has the same ops of each deal.
  Conditions: none.
  (Of these, what the claim wants: the rest was left out.)
-/
import Derived.Test.YtmjjiehnjghndaaRunsPlain
import Derived.Test.YtmjjiehnjghndaaOddSame
namespace Go.Proofs.Ytmjjiehnjghndaa

theorem calm_of : ∀ {l : List Op3}, (∀ t, Calm (ofL l t)) → Calm l := by
  intro l
  induction l with
  | nil => intro _; exact List.Pairwise.nil
  | cons a r ih =>
    intro h
    refine List.pairwise_cons.2 ⟨fun b hb => ?_, ih fun t => ?_⟩
    · have h1 := h a.1
      rw [ofL_cons, if_pos rfl] at h1
      rintro ⟨e, h2⟩
      exact (List.pairwise_cons.1 h1).1 b (List.mem_filter.2 ⟨hb, by simp [e]⟩) ⟨e, h2⟩
    · have h1 := h t
      rw [ofL_cons] at h1
      split at h1
      · exact (List.pairwise_cons.1 h1).2
      · exact h1
theorem Doing.done {s : List Op3} (h : Doing s) : doneL s = s := by
  unfold doneL
  refine List.filter_eq_self.2 fun x hx => ?_
  obtain ⟨p, hp, h1, h2⟩ := h.ends x hx
  have := h.deal x hx
  unfold commIn
  exact List.any_eq_true.2 ⟨p, hp, by simp [h1, h2]; omega⟩
end Go.Proofs.Ytmjjiehnjghndaa
