/-
  PROVED HERE: serial.doneDeals gives what is done, and of which deals, in memory of its own; of a wrong list Check's error. Old memory stays as it was.
  Conditions: none.
-/
import Derived.Test.YtjaeaanpbdmfgabGreatDoorMgak
import Derived.Test.YtjaeaanpbdmfgabGreatDoorRunsPlain
import Derived.Deep.Onto
import Derived.Deep.QuietTactic
import Derived.BigQuiet
import Derived.WalkSmall
namespace Go.Proofs.YtjaeaanpbdmfgabGreatDoor
open Go.RowKit

set_option maxHeartbeats 2000000 in
theorem ddeals_bad (l : List Op3) (v : Value) (w : World) (h : IsOps w v l) (hc : (chk l).2 ≠ 0) :
    Calls Tryz.prog 29 #[v] w fun e w' => e = .returned (.tuple #[.slice none 0 0, .slice none 0 0, .iface 58 (.int .i64 (chk l).2)]) ∧ Below w.heap.size w w' := by
  go_enter Tryz.func29, Tryz.ntmps29
  go_wp2_with (go_at_call 41; refine (done_bad l _ _ h hc).mono ?_; rintro e w1 ⟨rfl, hb1⟩)
  go_ret3
  exact ⟨rfl, hb1⟩
set_option maxHeartbeats 2000000 in
theorem ddeals_ok (l : List Op3) (v : Value) (w : World) (h : IsOps w v l) (hc : (chk l).2 = 0) :
    Calls Tryz.prog 29 #[v] w fun e w' => ∃ u v', e = .returned (.tuple #[u, v', .nilIface]) ∧ IsOps w' u (doneL l) ∧ w'.ownsRow w.heap.size 3 1 v' (dealsL (doneL l)).length ((dealsL (doneL l)).map (Value.int .i64)) ∧ Below w.heap.size w w' := by
  go_enter Tryz.func29, Tryz.ntmps29
  go_wp2_with fail
  refine (done_ok l _ _ h hc).mono ?_
  rintro e w1 ⟨u, rfl, hI1, hb1⟩
  go_wp2_with fail
  refine (deals_own (doneL l) u _ hI1 (chk_done hc)).mono ?_
  rintro e w2 ⟨v', rfl, hown2, hb2⟩
  go_wp2_with fail
  go_ret3
  exact ⟨_, _, rfl, hI1.below hb2 (Nat.le_refl _), hown2.mono hb1.size, hb1.trans (hb2.mono hb1.size)⟩
end Go.Proofs.YtjaeaanpbdmfgabGreatDoor
