/-
  PROVED HERE: odds.Pairs gives the pairs of a right list, and of any other Check's error. Old memory stays as it was.
  Conditions: none.
-/
import Derived.Test.YtjcaekhkeobhpahDoorOddPair0
namespace Go.Proofs.YtjcaekhkeobhpahDoor
open Go.RowKit

theorem pairs_bad (l : List Op3) (v : Value) (w : World) (h : IsOps w v l) (hc : (chk l).2 ≠ 0) :
    Calls Tryd.prog 23 #[v] w fun e w' => e = .returned (.tuple #[.slice none 0 0, .iface 59 (.int .i64 (chk l).2)]) ∧ Below w.heap.size w w' := by
  go_enter Tryd.func23, Tryd.ntmps23
  go_wp2_with (go_at_call 44; refine (check_bad l _ _ h hc).mono ?_; rintro e w1 ⟨rfl, hb1⟩)
  go_ret2
  exact ⟨rfl, hb1⟩
theorem pairs_ok (l : List Op3) (v : Value) (w : World) (h : IsOps w v l) (hc : (chk l).2 = 0) :
    Calls Tryd.prog 23 #[v] w fun e w' => ∃ v', e = .returned (.tuple #[v', .nilIface]) ∧ IsEdges w' v' (pairsL l) ∧ Below w.heap.size w w' := by
  go_enter Tryd.func23, Tryd.ntmps23
  go_wp2_with (first | (go_at_call 44; refine (check_ok l _ _ h hc).mono ?_; rintro e w1 ⟨rfl, hb1⟩) | (go_at_call 45; refine (pairs_any l _ _ (h.below hb1 (Nat.le_refl _)) (chk_len hc)).mono ?_; rintro e w2 ⟨v2, rfl, hE2, hb2⟩))
  go_ret2
  exact ⟨_, rfl, hE2, hb1.trans (hb2.mono hb1.size)⟩
end Go.Proofs.YtjcaekhkeobhpahDoor
