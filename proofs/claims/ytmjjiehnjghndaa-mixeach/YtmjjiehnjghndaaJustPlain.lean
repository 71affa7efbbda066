/-
  PROVED HERE: plain facts, with no word of the program: what is done, laid along an order of its deals, is right, done, in one piece each; it is the same, but for what may change places, just where the order keeps to the edges; so there is such an order just if the edges have no ring.
  Conditions: none.
  (Of these, what the claim wants: the rest was left out.)
-/
import Derived.Test.YtmjjiehnjghndaaOrdPlain
import Derived.Test.YtmjjiehnjghndaaAlongPlain
import Derived.Test.YtmjjiehnjghndaaOddSame
namespace Go.Proofs.Ytmjjiehnjghndaa

theorem pair_sub : ∀ {o : List Int} {i j : Nat} {x y : Int}, i < j → o[i]? = some x → o[j]? = some y → [x, y].Sublist o := by
  intro o
  induction o with
  | nil => intro i j x y _ h _; simp at h
  | cons a r ih =>
    intro i j x y hij hi hj
    cases j with
    | zero => omega
    | succ j =>
      simp only [List.getElem?_cons_succ] at hj
      cases i with
      | zero =>
        simp only [List.getElem?_cons_zero, Option.some.injEq] at hi
        subst hi
        exact List.Sublist.cons_cons _ (List.singleton_sublist.2 (List.mem_of_getElem? hj))
      | succ i =>
        simp only [List.getElem?_cons_succ] at hi
        exact (ih (by omega) hi hj).cons _
theorem sub_pair : ∀ {o : List Int} {x y : Int}, [x, y].Sublist o → ∃ i j : Nat, i < j ∧ o[i]? = some x ∧ o[j]? = some y := by
  intro o
  induction o with
  | nil => intro x y h; cases h
  | cons a r ih =>
    intro x y h
    cases h with
    | cons _ h =>
      obtain ⟨i, j, h1, h2, h3⟩ := ih h
      exact ⟨i + 1, j + 1, by omega, by simpa using h2, by simpa using h3⟩
    | cons_cons _ h =>
      obtain ⟨j, hj⟩ := List.getElem?_of_mem (List.singleton_sublist.1 h)
      exact ⟨0, j + 1, by omega, by simp, by simpa using hj⟩
theorem odd_deal {a b : Op3} (h : oddB a b = true) : a.1 ≠ b.1 := by
  unfold oddB at h
  simp at h
  exact h.1
theorem mem_edge {d : List Op3} {e : Edge2} (h : e ∈ edgesTo d 36) : ∃ i j : Nat, i < j ∧ j < d.length ∧ oddB (opAt d i) (opAt d j) = true ∧ e = ((opAt d i).1, (opAt d j).1) := by
  have h1 := (List.mem_filter.1 h).2
  unfold leadsB at h1
  obtain ⟨p, hp, h2⟩ := List.any_eq_true.1 h1
  obtain ⟨i, j, hij, hj, ho, rfl⟩ := mem_pairs.1 hp
  refine ⟨i, j, hij, hj, ho, ?_⟩
  have h3 : edgeOf d ((i : Int), (j : Int)) = e := by simpa using h2
  rw [← h3]
  simp [edgeOf]
/-- An order that keeps to the edges. -/
def Keeps (l : List Edge2) (o : List Int) : Prop := ∀ e ∈ l, [e.1, e.2].Sublist o
/-- Where it goes around no order keeps to the edges. -/
theorem none_keeps {l : List Edge2} (hr : Right l) (hn : orderL l = none) {o : List Int} (ho : o.Nodup) (hd : ∀ x ∈ o, 1 ≤ x ∧ x ≤ 6) : ¬ Keeps l o := fun hk => by
  rcases graph_either hr with ⟨q, hq, _⟩ | ⟨_, r, _, hring, h1, _⟩
  · rw [hn] at hq; cases hq
  · have hio : IsOrder l o := ⟨fun x hx => ⟨x.toNat, by have := hd x hx; omega, by have := hd x hx; omega, by have := hd x hx; omega⟩, ho, fun x y he => sub_pair (hk _ he)⟩
    exact no_round hio _ (hring.round 0 (by omega))
theorem serOrd_none {d : List Op3} : serOrd d = none ↔ orderL (edgesTo d 36) = none := by unfold serOrd; simp
end Go.Proofs.Ytmjjiehnjghndaa
