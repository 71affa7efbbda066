/-
  PROVED HERE: serial.doneDeals gives what is done, and of which deals, in memory of its own; of a wrong list Check's error. Old memory stays as it was.
  Conditions: none.
  (Of these, what the claim wants: the rest was left out.)
-/
import Derived.Test.YtmjjiehnjghndaaBack
import Derived.Test.YtmjjiehnjghndaaRunsPlain
import Derived.Deep.Onto
import Derived.Deep.QuietTactic
import Derived.BigQuiet
import Derived.WalkSmall
namespace Go.Proofs.Ytmjjiehnjghndaa
open Go.RowKit

set_option maxHeartbeats 2000000 in
theorem ddeals_ok (l : List Op3) (v : Value) (w : World) (h : IsOps w v l) (hc : (chk l).2 = 0) :
    Calls Try.prog 27 #[v] w fun e w' => ∃ u v', e = .returned (.tuple #[u, v', .nilIface]) ∧ IsOps w' u (doneL l) ∧ w'.ownsRow w.heap.size 3 1 v' (dealsL (doneL l)).length ((dealsL (doneL l)).map (Value.int .i64)) ∧ Below w.heap.size w w' := by
  go_enter Try.func27, Try.ntmps27
  go_wp2_with fail
  refine (done_ok l _ _ h hc).mono ?_
  rintro e w1 ⟨u, rfl, hI1, hb1⟩
  go_wp2_with fail
  refine (deals_own (doneL l) u _ hI1 (chk_done hc)).mono ?_
  rintro e w2 ⟨v', rfl, hown2, hb2⟩
  go_wp2_with fail
  go_ret3
  exact ⟨_, _, rfl, hI1.below hb2 (Nat.le_refl _), hown2.mono hb1.size, hb1.trans (hb2.mono hb1.size)⟩
end Go.Proofs.Ytmjjiehnjghndaa
