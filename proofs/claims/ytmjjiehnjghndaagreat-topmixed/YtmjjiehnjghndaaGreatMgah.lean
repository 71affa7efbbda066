/-
  PROVED HERE: plain facts, with no word of the program: of what is done there are as many pieces as deals just if each piece ends with a commit.
  Conditions: none.
  (Of these, what the claim wants: the rest was left out.)
  PROVED HERE: plain facts on lists, with no word of the program: edges put in one by one, sorted and each once, are the same list as the possible edges, in order, of which only those are kept that are there.
  Conditions: none.
  (Of these, what the claim wants: the rest was left out.)
-/
import Derived.Test.YtmjjiehnjghndaaGreatMgag
import Derived.Test.YtmjjiehnjghndaaGreatMgab
import Derived.Test.YtmjjiehnjghndaaGreatMgaf
namespace Go.Proofs.YtmjjiehnjghndaaGreat

/-- An op of another deal than the one ahead of it, which is no commit. -/
def badAt (d : List Op3) (i : Nat) : Bool := (opAt d i).1 != (opAt d (i - 1)).1 && (opAt d (i - 1)).2.1 != 3
def badTo (d : List Op3) : Nat → Nat
  | 0 => 0
  | n + 1 => badTo d n + if n ≠ 0 ∧ badAt d n = true then 1 else 0
/-- Is each deal in one piece? -/
def serB (d : List Op3) : Bool := decide (badTo d d.length = 0)
theorem badTo_one (d : List Op3) : badTo d 1 = 0 := by simp [badTo]
theorem badTo_no {d : List Op3} {n : Nat} (h : badAt d n = false) : badTo d (n + 1) = badTo d n := by simp [badTo, h]
theorem opAt_get {d : List Op3} {i : Nat} (h : i < d.length) : opAt d i = d[i] := by
  unfold opAt
  simp [List.getD, List.getElem?_eq_getElem h]
theorem calm_at {d : List Op3} (hc : Calm d) {i j : Nat} (hij : i < j) (hj : j < d.length) (h3 : (opAt d i).2.1 = 3) : (opAt d i).1 ≠ (opAt d j).1 := by
  intro e
  have := List.pairwise_iff_getElem.1 hc i j (by omega) hj hij
  rw [opAt_get (by omega)] at e h3
  rw [opAt_get hj] at e
  exact this ⟨e, by rw [h3]; rfl⟩
/-- What is done: right, and each of its deals commits. -/
structure Doing (d : List Op3) : Prop where
  calm : Calm d
  deal : ∀ o ∈ d, 1 ≤ o.1 ∧ o.1 ≤ 6
  ends : ∀ o ∈ d, ∃ p ∈ d, p.1 = o.1 ∧ p.2.1 = 3
theorem doing_done {l : List Op3} (h : (chk l).2 = 0) : Doing (doneL l) where
  calm := ((chk_iff _).1 (chk_done h)).2.2
  deal := fun o ho => isOp_tx (chk_ops (chk_done h) o ho)
  ends := fun o ho => by
    have ht := isOp_tx (chk_ops (chk_done h) o ho)
    have h1 : commIn (doneL l) o.1.toNat = true := by
      rw [commIn_done]
      exact (List.mem_filter.1 ho).2
    unfold commIn at h1
    obtain ⟨p, hp, h2⟩ := List.any_eq_true.1 h1
    simp only [Bool.and_eq_true, beq_iff_eq] at h2
    exact ⟨p, hp, by omega, h2.2⟩
theorem Doing.last {d : List Op3} (h : Doing d) {n : Nat} (hn : d.length = n + 1) : (opAt d n).2.1 = 3 := by
  obtain ⟨p, hp, h1, h2⟩ := h.ends (opAt d n) (opAt_mem (by omega))
  obtain ⟨j, hj, rfl⟩ := List.getElem_of_mem hp
  by_cases e : j = n
  · subst e; rw [opAt_get (by omega)]; exact h2
  · have := calm_at h.calm (show j < n by omega) (show n < d.length by omega) (by rw [opAt_get hj]; exact h2)
    rw [opAt_get hj] at this
    exact absurd h1 this
end Go.Proofs.YtmjjiehnjghndaaGreat

namespace Go.Proofs.YtmjjiehnjghndaaGreat

/-- The deals of a pair of places. -/
def edgeOf (d : List Op3) (p : Edge2) : Edge2 := ((opAt d p.1.toNat).1, (opAt d p.2.toNat).1)
/-- All edges that may be, in order. -/
def allE : List Edge2 := (List.range 36).map fun n => (((n / 6 + 1 : Nat) : Int), ((n % 6 + 1 : Nat) : Int))
def leadsB (d : List Op3) (e : Edge2) : Bool := (pairsL d).any fun p => edgeOf d p == e
def edgesTo (d : List Op3) (n : Nat) : List Edge2 := (allE.take n).filter (leadsB d)
theorem allE_take (n : Nat) (h : n < 36) : allE.take (n + 1) = allE.take n ++ [(((n / 6 + 1 : Nat) : Int), ((n % 6 + 1 : Nat) : Int))] := by
  have hl : n < allE.length := by simpa [allE] using h
  rw [List.take_succ_eq_append_getElem hl]
  simp [allE]
theorem edgesTo_hit {d : List Op3} {i j : Nat} (hi : i < 6) (hj : j < 6) (h : leadsB d (((i + 1 : Nat) : Int), ((j + 1 : Nat) : Int)) = true) : edgesTo d (6 * i + (j + 1)) = edgesTo d (6 * i + j) ++ [(((i + 1 : Nat) : Int), ((j + 1 : Nat) : Int))] := by
  unfold edgesTo
  rw [← Nat.add_assoc, allE_take _ (by omega), show (6 * i + j) / 6 = i by omega, show (6 * i + j) % 6 = j by omega, List.filter_append]
  simp only [List.filter_cons, h, if_true, List.filter_nil]
theorem edgesTo_miss {d : List Op3} {i j : Nat} (hi : i < 6) (hj : j < 6) (h : leadsB d (((i + 1 : Nat) : Int), ((j + 1 : Nat) : Int)) = false) : edgesTo d (6 * i + (j + 1)) = edgesTo d (6 * i + j) := by
  unfold edgesTo
  rw [← Nat.add_assoc, allE_take _ (by omega), show (6 * i + j) / 6 = i by omega, show (6 * i + j) % 6 = j by omega, List.filter_append]
  rw [List.filter_cons, h]
  simp
theorem edgesTo_len (d : List Op3) (n : Nat) : (edgesTo d n).length ≤ 36 := by
  unfold edgesTo
  have h1 := List.length_filter_le (leadsB d) (allE.take n)
  have h2 := List.length_take_le' n allE
  have h3 : allE.length = 36 := by simp [allE]
  omega
theorem mem_allE {a b : Int} (h1 : 1 ≤ a) (h2 : a ≤ 6) (h3 : 1 ≤ b) (h4 : b ≤ 6) : (a, b) ∈ allE := by
  unfold allE
  refine List.mem_map.2 ⟨6 * (a.toNat - 1) + (b.toNat - 1), List.mem_range.2 (by omega), ?_⟩
  refine Prod.ext ?_ ?_ <;> simp <;> omega
end Go.Proofs.YtmjjiehnjghndaaGreat
