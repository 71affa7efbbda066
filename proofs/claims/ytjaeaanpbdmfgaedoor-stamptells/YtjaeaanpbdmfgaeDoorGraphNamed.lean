/-
  PROVED HERE: graph.named gives the deals that right edges name. Old memory stays as it was.
  Conditions: none.
-/
import Derived.Test.YtjaeaanpbdmfgaeDoorGraphBools
namespace Go.Proofs.YtjaeaanpbdmfgaeDoor
open Go.RowKit

theorem cast_beq (t j : Nat) : ((t : Int) == (j : Int)) = decide (j = t) := by
  rw [Bool.eq_iff_iff]
  simp
  omega
theorem set_named (s : Set7) (t a j : Nat) : setS (setS s t true) a true j = (s j || ((t : Int) == (j : Int) || (a : Int) == (j : Int))) := by
  rw [cast_beq, cast_beq]
  unfold setS
  by_cases h1 : j = a
  · simp [h1]
  · by_cases h2 : j = t <;> simp [h1, h2]

end Go.Proofs.YtjaeaanpbdmfgaeDoor
