/-
  PROVED HERE: laneref2.Tree, the document's own answer, tells what is wrong with a tree (treeE); laneref2.GripEdges tells which deals locked an item ahead of which, in order (gripL). Old memory stays as it was.
  Conditions: of GripEdges, that the deals are 1 to 6.
  (Of these, what the claim wants: the rest was left out.)
-/
import Derived.Test.YtmgadiopjofegaiDoorTreeAsk
import Derived.Test.YtmgadiopjofegaiDoorEdgeRow
import Derived.Test.YtmgadiopjofegaiDoorOddEdges
import Derived.Test.YtmgadiopjofegaiDoorRegion
import Derived.Laws.AppendOwnNone
import Derived.Test.YtmgadiopjofegaiDoorKindPlain
import Derived.Test.YtmgadiopjofegaiDoorIntRow
import Derived.Maps.AppendAt
import Derived.BigQuiet
import Derived.Deep.QuietTactic
import Derived.Deep.Cut
namespace Go.Proofs.YtmgadiopjofegaiDoor
open Go.RowKit

theorem hid_r {p : Prop} (h : p) : Hid p := h
/-- Is an entry of a tree wrong? -/
def upBad (up : List Int) (i : Nat) : Bool := decide (0 < i) && (decide (up.getD i 0 < 1) || decide ((i : Int) < up.getD i 0))
def upTo? (up : List Int) (n : Nat) : Bool := (List.range n).any (upBad up)
theorem upTo?_succ (up : List Int) (n : Nat) : upTo? up (n + 1) = (upTo? up n || upBad up n) := by unfold upTo?; rw [List.range_succ, List.any_append]; simp
theorem treeE_eq (up : List Int) : treeE up = if up.length < 1 ∨ 6 < up.length then 1 else if up.getD 0 0 ≠ 0 then 3 else if upTo? up up.length = true then 1 else 0 := rfl
theorem upTo?_mono {up : List Int} {k n : Nat} (h : upTo? up k = true) (hk : k ≤ n) : upTo? up n = true := by
  unfold upTo? at h ⊢
  obtain ⟨i, hi, e⟩ := List.any_eq_true.1 h
  exact List.any_eq_true.2 ⟨i, by rw [List.mem_range] at hi ⊢; omega, e⟩
end Go.Proofs.YtmgadiopjofegaiDoor
