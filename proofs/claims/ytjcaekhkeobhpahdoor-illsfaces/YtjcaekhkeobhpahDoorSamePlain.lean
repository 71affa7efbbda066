/-
  PROVED HERE: plain facts, with no word of the program: whether two lists have the same names, and no two that are at odds stand in another order.
  Conditions: none.
-/
import Derived.Test.YtjcaekhkeobhpahDoorOddSame
namespace Go.Proofs.YtjcaekhkeobhpahDoor

def namedB (h g : List Op3) : Bool := (List.range h.length).all fun i => (List.range g.length).any fun k => nameAt g k == nameAt h i
theorem namedB_iff (h g : List Op3) : namedB h g = true ↔ Named h g := by
  simp [namedB, Named]
/-- The program's answer. -/
def sameB (h g : List Op3) : Bool := (h.length == g.length && namedB h g) && !(pairsL h).any (turnedB h g)
theorem sameB_no {h g : List Op3} (hn : ¬ (h.length = g.length ∧ Named h g)) : sameB h g = false := by
  have : (h.length == g.length && namedB h g) = false := by
    cases hb : (h.length == g.length && namedB h g) with
    | false => rfl
    | true =>
      simp at hb
      exact absurd ⟨hb.1, (namedB_iff h g).1 hb.2⟩ hn
  simp [sameB, this]
theorem sameB_yes {h g : List Op3} (hn : h.length = g.length ∧ Named h g) : sameB h g = !(pairsL h).any (turnedB h g) := by
  simp [sameB, hn.1, (namedB_iff h g).2 hn.2]
end Go.Proofs.YtjcaekhkeobhpahDoor
