/-
  PROVED HERE: a square of bools (from which deal to which) in a block of memory, and what becomes of it when one of them is set, when memory is made, and when old memory stays.
  Conditions: none.
  (Of these, what the claim wants: the rest was left out.)
-/
import Derived.Test.YtmgadiopjofegaiDoorGraphBools
import Derived.Laws.Rows
import Derived.Laws.CopyOwn
namespace Go.Proofs.YtmgadiopjofegaiDoor
open Go.RowKit

/-- Two numbers as one. -/
def flatS (s : Step7) : Set7 := fun k => s (k / 7) (k % 7)
def cells49 (s : Step7) : Array Value := ((List.range 49).map fun k => Value.bool (flatS s k)).toArray
theorem cells49_size (s : Step7) : (cells49 s).size = 49 := by simp [cells49]
theorem cells49_at (s : Step7) (k : Nat) (h : k < 49) : (cells49 s)[k]? = some (.bool (flatS s k)) := by simp [cells49, h]
theorem flat_two (i k : Nat) (hk : k < 7) (s : Step7) : flatS s (i * 7 + k) = s i k := by
  unfold flatS
  rw [show (i * 7 + k) / 7 = i by omega, show (i * 7 + k) % 7 = k by omega]
def setM (s : Step7) (t a : Nat) : Step7 := fun i k => if i = t ∧ k = a then true else s i k
theorem cells49_set (s : Step7) (t a : Nat) (ha : a < 7) : (cells49 s).setIfInBounds (t * 7 + a) (.bool true) = cells49 (setM s t a) := by
  refine Array.ext_getElem? fun j => ?_
  rw [Array.getElem?_setIfInBounds, cells49_size]
  by_cases hj : j < 49
  · rw [cells49_at _ j hj, cells49_at _ j hj]
    unfold flatS setM
    by_cases e : t * 7 + a = j
    · rw [if_pos e, if_pos (by omega), if_pos (by omega)]
    · rw [if_neg e, if_neg (by omega)]
  · have h1 : ∀ r, (cells49 r)[j]? = none := fun r => Array.getElem?_eq_none (by rw [cells49_size]; omega)
    rw [h1, h1]
    by_cases e : t * 7 + a = j
    · rw [if_pos e, if_neg (by omega)]
    · rw [if_neg e]
end Go.Proofs.YtmgadiopjofegaiDoor
