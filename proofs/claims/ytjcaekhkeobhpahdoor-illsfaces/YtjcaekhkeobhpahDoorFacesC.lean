/-
  PROVED HERE: package faces' Of answers in one sentence, right history or not (FacesC). Old memory stays as it was.
  Conditions: none.
-/
import Derived.Test.YtjcaekhkeobhpahDoorFacesOf2
import Derived.Test.YtjcaekhkeobhpahDoorIFaceWalk
namespace Go.Proofs.YtjcaekhkeobhpahDoor
open Go.RowKit

theorem facesC : FacesC := by
  intro l ad cap w hI hcap
  by_cases hc : (chk l).2 = 0
  · refine (fof_ok l ad cap w hI hcap hc).mono fun e w' ⟨he, hb⟩ => ⟨?_, hb⟩
    rw [he, hc]
    unfold facesU illsV
    rw [if_neg (by rw [hc]; decide)]
    rfl
  · refine (fof_bad l _ w hI hc).mono fun e w' ⟨he, hb⟩ => ⟨?_, hb⟩
    rw [he]
    unfold facesU illsV errV
    rw [if_pos hc, if_neg hc]
end Go.Proofs.YtjcaekhkeobhpahDoor
