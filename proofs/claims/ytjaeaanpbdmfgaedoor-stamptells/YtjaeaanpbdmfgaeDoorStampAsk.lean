/-
  PROVED HERE: nothing yet of package stamp: what its Run is asked to answer (StampC), for the laws that call it; how long that can be.
  Conditions: none.
-/
import Derived.Test.YtjaeaanpbdmfgaeDoorStampPlain
import Derived.Test.YtjaeaanpbdmfgaeDoorOps
import Derived.Test.YtjaeaanpbdmfgaeDoorIntRow
namespace Go.Proofs.YtjaeaanpbdmfgaeDoor
open Go.RowKit

/-- What Run answers, of any ops. -/
def stampU (leave : Bool) (l : List Op3) : (List Op3 × List Int) × Int := if (chk l).2 ≠ 0 then (([], []), (chk l).2) else (((stampR leave l).told, (stampR leave l).vict), 0)
/-- What package stamp is asked to keep. -/
def StampC : Prop := ∀ (l : List Op3) (v : Value) (leave : Bool) (w : World), IsOps w v l → Calls Tryd.prog 25 #[v, .bool leave] w fun e w' => ∃ v1 v2, e = .returned (.tuple #[v1, v2, errV (stampU leave l).2]) ∧ IsOps w' v1 (stampU leave l).1.1 ∧ IsInts w' v2 (stampU leave l).1.2 ∧ Below w.heap.size w w'
theorem stampU_bad {leave : Bool} {l : List Op3} (h : (chk l).2 ≠ 0) : stampU leave l = (([], []), (chk l).2) := by
  unfold stampU
  rw [if_pos h]
theorem stampU_ok {leave : Bool} {l : List Op3} (h : (chk l).2 = 0) : stampU leave l = (((stampR leave l).told, (stampR leave l).vict), 0) := by
  unfold stampU
  rw [if_neg (by simpa using h)]
theorem stampU_len (leave : Bool) (l : List Op3) : (stampU leave l).1.1.length ≤ 40 ∧ (stampU leave l).1.2.length ≤ 40 := by
  by_cases h : (chk l).2 = 0
  · rw [stampU_ok h]
    have h1 := (stamp_all leave h).long
    have h2 := chk_len h
    exact ⟨by show (stampR leave l).told.length ≤ 40; omega, by show (stampR leave l).vict.length ≤ 40; omega⟩
  · rw [stampU_bad h]
    exact ⟨by simp, by simp⟩
end Go.Proofs.YtjaeaanpbdmfgaeDoor
