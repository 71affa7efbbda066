/-
  PROVED HERE: plain facts, with no word of the program: deals one behind the other, each reading one item and writing another one, are right, done, in one piece each; along any order of them they are so again; and the order that their edges ask is that in which they come.
  Conditions: none.
  (Of these, what the claim wants: the rest was left out.)
  PROVED HERE: plain facts, with no word of the program: the order that the program tells is that of all deals that are done, the least that could be next first.
  Conditions: none.
-/
import Derived.Test.YtmjjiehnjghndaaGreatMgag
import Derived.Test.YtmjjiehnjghndaaGreatMgah
namespace Go.Proofs.YtmjjiehnjghndaaGreat

/-- Deals, each once. -/
structure Deals1 (ps : List Int) : Prop where
  deal : ∀ x ∈ ps, 1 ≤ x ∧ x ≤ 6
  once : ps.Nodup
theorem Deals1.len {ps : List Int} (h : Deals1 ps) : ps.length ≤ 6 := by
  have h1 := h.once.length_le_of_subset (l₂ := [1, 2, 3, 4, 5, 6]) fun x hx => by
    have := h.deal x hx
    simp; omega
  simpa using h1
theorem sort_of_mem {ps d : List Int} (hn : ps.Nodup) (hd : d.Pairwise (· < ·)) (h : ∀ x, x ∈ ps ↔ x ∈ d) : sortI ps = d := by
  have h1 : (sortI ps).Nodup := (sortI_perm ps).nodup_iff.2 hn
  rw [List.nodup_iff_pairwise_ne] at h1
  exact rise_uniq _ _ (((sortI_sorted ps).and h1).imp fun {a b} hab => by omega) hd fun x => ((sortI_perm ps).mem_iff).trans (h x)
theorem edges_right (d : List Op3) (n : Nat) : Right (edgesTo d n) := fun e he => by
  have h1 := (List.mem_filter.1 he).1
  have h2 := List.mem_of_mem_take h1
  unfold allE at h2
  obtain ⟨k, hk, rfl⟩ := List.mem_map.1 h2
  have := List.mem_range.1 hk
  simp only
  omega
theorem edges_gchk (d : List Op3) (n : Nat) : gchk (edgesTo d n) = 0 := by
  have h1 := edgesTo_len d n
  unfold gchk
  rw [if_neg (by omega), if_neg]
  intro h
  obtain ⟨e, he, h2⟩ := List.any_eq_true.1 h
  have := edges_right d n e he
  simp [wrongB, dealB, this] at h2
end Go.Proofs.YtmjjiehnjghndaaGreat

namespace Go.Proofs.YtmjjiehnjghndaaGreat

/-- The order that the program tells. -/
def serOrd (d : List Op3) : Option (List Int) := (orderL (edgesTo d 36)).map fun b => weaveL b ((dealsL d).filter fun x => !inB b x)
theorem edges_deals {d : List Op3} (hd : ∀ o ∈ d, 1 ≤ o.1 ∧ o.1 ≤ 6) {e : Edge2} (he : e ∈ edgesTo d 36) : e.1 ∈ dealsL d ∧ e.2 ∈ dealsL d := by
  have h1 := (List.mem_filter.1 he).2
  unfold leadsB at h1
  obtain ⟨p, hp, h2⟩ := List.any_eq_true.1 h1
  have h3 : edgeOf d p = e := by simpa using h2
  obtain ⟨i, j, hij, hj, _, rfl⟩ := mem_pairs.1 hp
  rw [← h3]
  unfold edgeOf
  simp only [Int.toNat_natCast]
  have m1 := opAt_mem (l := d) (i := i) (by omega)
  have m2 := opAt_mem (l := d) (i := j) hj
  exact ⟨mem_deals.2 ⟨(hd _ m1).1, (hd _ m1).2, hasB_iff.2 ⟨_, m1, rfl⟩⟩, mem_deals.2 ⟨(hd _ m2).1, (hd _ m2).2, hasB_iff.2 ⟨_, m2, rfl⟩⟩⟩
theorem serOrd_sort {d : List Op3} (hd : ∀ o ∈ d, 1 ≤ o.1 ∧ o.1 ≤ 6) : sortD (dealsL d) (edgesTo d 36) = serOrd d := by
  unfold serOrd
  refine sortD_weave (edges_right _ _) (dealsL_rise _) (fun x hx => ⟨(mem_deals.1 hx).1, (mem_deals.1 hx).2.1⟩) fun x hx => ?_
  obtain ⟨e, he, h2⟩ := (namedI_mem _ x).1 hx
  rcases h2 with rfl | rfl
  · exact (edges_deals hd he).1
  · exact (edges_deals hd he).2
end Go.Proofs.YtmjjiehnjghndaaGreat
