/-
  PROVED HERE: nothing yet of package play: what play.Seen is asked to answer, and what both answer at a wrong list, for the laws that call them.
  Conditions: none.
-/
import Derived.Test.YtjaeaanpbdmfgadDoorPlayAsk
namespace Go.Proofs.YtjaeaanpbdmfgadDoor
open Go.RowKit

/-- What play.Seen answers at a right list. -/
def SeenOk : Prop := ∀ (l : List Op3) (v : Value) (w : World), IsOps w v l → (chk l).2 = 0 →
  Calls Tryd.prog 9 #[v] w fun e w' => ∃ v', e = .returned (.tuple #[v', .nilIface]) ∧ IsInts w' v' (seenTo (doneL l) (doneL l).length) ∧ Below w.heap.size w w'
/-- What both answer at a wrong one. -/
def ValuesBad : Prop := ∀ (l : List Op3) (v : Value) (w : World), IsOps w v l → (chk l).2 ≠ 0 →
  Calls Tryd.prog 6 #[v] w fun e w' => e = .returned (.tuple #[.slice none 0 0, .iface 45 (.int .i64 (chk l).2)]) ∧ Below w.heap.size w w'
def SeenBad : Prop := ∀ (l : List Op3) (v : Value) (w : World), IsOps w v l → (chk l).2 ≠ 0 →
  Calls Tryd.prog 9 #[v] w fun e w' => e = .returned (.tuple #[.slice none 0 0, .iface 45 (.int .i64 (chk l).2)]) ∧ Below w.heap.size w w'
end Go.Proofs.YtjaeaanpbdmfgadDoor
