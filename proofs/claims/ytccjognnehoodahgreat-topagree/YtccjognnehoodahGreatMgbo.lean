/-
  PROVED HERE: laneref1.Table's method Ask, over a table in memory. Of the blocks that there were, only the table's own turn.
  Conditions: the lists are short.
  PROVED HERE: laneref1.Put puts a number into a list, ahead of the first that is greater, once. Old memory stays as it was.
  Conditions: none.
-/
import Derived.Test.YtccjognnehoodahGreatMgbk
import Derived.Test.YtccjognnehoodahGreatMgac
import Derived.Test.YtccjognnehoodahGreatMgad
import Derived.Maps.AppendAt
namespace Go.Proofs.YtccjognnehoodahGreat
open Go.RowKit

theorem hasL_hit {l : List Op3} {x : Op3} {k : Nat} (hk : k < l.length) (h : (opAt l k).1 = x.1 ∧ (opAt l k).2.1 = x.2.1 ∧ x.2.2 ≤ (opAt l k).2.2) : hasL l x = true := by
  simp only [hasL, List.any_eq_true]
  refine ⟨_, opAt_mem hk, ?_⟩
  simp [h.1, h.2.1, h.2.2]
theorem hasL_none {l : List Op3} {x : Op3} (h : ∀ k, k < l.length → ¬ ((opAt l k).1 = x.1 ∧ (opAt l k).2.1 = x.2.1 ∧ x.2.2 ≤ (opAt l k).2.2)) : hasL l x = false := by
  cases hh : hasL l x with
  | false => rfl
  | true =>
    simp only [hasL, List.any_eq_true, Bool.and_eq_true, beq_iff_eq, decide_eq_true_eq] at hh
    obtain ⟨y, hy, h1, h2, h3⟩ := hh
    obtain ⟨i, hi, rfl⟩ := List.mem_iff_getElem.1 hy
    have e : opAt l i = l[i] := by simp [opAt, List.getD, List.getElem?_eq_getElem hi]
    exact absurd ⟨by rw [e]; exact h1, by rw [e]; exact h2, by rw [e]; exact h3⟩ (h i hi)
/-- A table as a world has it, whatever was made since. -/
theorem TabAt.later {w w1 : World} {B : Nat} {ty : TypeId} {T o : Nat} {cs : Array Value} {hv wv : Value} {s : Tab2} (h : TabAt w ty T o cs hv wv s) (hb : Below B w w1) (hB : w.heap.size ≤ B) : TabAt w1 ty T o cs hv wv s := h.below (hb.mono hB)
end Go.Proofs.YtccjognnehoodahGreat

namespace Go.Proofs.YtccjognnehoodahGreat
open Go.RowKit

end Go.Proofs.YtccjognnehoodahGreat
