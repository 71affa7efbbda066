/-
  PROVED HERE: plain facts, with no word of the program: deals one behind the other, each reading one item and writing another one, are right, done, in one piece each; along any order of them they are so again; and the order that their edges ask is that in which they come.
  Conditions: none.
  (Of these, what the claim wants: the rest was left out.)
-/
import Derived.Test.YtmjjiehnjghndaaWeavePlain
import Derived.Test.YtmjjiehnjghndaaRunsPlain
import Derived.Test.YtmjjiehnjghndaaOddEdges
namespace Go.Proofs.Ytmjjiehnjghndaa

/-- Deals, each once. -/
structure Deals1 (ps : List Int) : Prop where
  deal : ∀ x ∈ ps, 1 ≤ x ∧ x ≤ 6
  once : ps.Nodup
theorem Deals1.len {ps : List Int} (h : Deals1 ps) : ps.length ≤ 6 := by
  have h1 := h.once.length_le_of_subset (l₂ := [1, 2, 3, 4, 5, 6]) fun x hx => by
    have := h.deal x hx
    simp; omega
  simpa using h1
theorem edges_right (d : List Op3) (n : Nat) : Right (edgesTo d n) := fun e he => by
  have h1 := (List.mem_filter.1 he).1
  have h2 := List.mem_of_mem_take h1
  unfold allE at h2
  obtain ⟨k, hk, rfl⟩ := List.mem_map.1 h2
  have := List.mem_range.1 hk
  simp only
  omega
theorem edges_gchk (d : List Op3) (n : Nat) : gchk (edgesTo d n) = 0 := by
  have h1 := edgesTo_len d n
  unfold gchk
  rw [if_neg (by omega), if_neg]
  intro h
  obtain ⟨e, he, h2⟩ := List.any_eq_true.1 h
  have := edges_right d n e he
  simp [wrongB, dealB, this] at h2
end Go.Proofs.Ytmjjiehnjghndaa
