/-
  PROVED HERE: graph.Reach tells whether there is a way of at least one edge; of wrong edges Check's error, of numbers that are no deals ErrRange. Old memory stays as it was.
  Conditions: none.
-/
import Derived.Test.YtjaeaanpbdmfgabDoorGraphVisit
namespace Go.Proofs.YtjaeaanpbdmfgabDoor
open Go.RowKit

theorem reach_bad (l : List Edge2) (v : Value) (a b : Int) (w : World) (hI : IsEdges w v l) (hc : gchk l ≠ 0) :
    Calls Tryd.prog 17 #[v, .int .i64 a, .int .i64 b] w fun e w' => e = .returned (.tuple #[.bool false, .iface 54 (.int .i64 (gchk l))]) ∧ Below w.heap.size w w' := by
  go_enter Tryd.func17, Tryd.ntmps17
  go_wp2_with (go_at_call 8; refine (gcheck_bad l _ _ hI hc).mono ?_; rintro e w1 ⟨rfl, hb1⟩)
  go_ret2
  exact ⟨rfl, hb1⟩
set_option maxHeartbeats 2000000 in
theorem reach_range (l : List Edge2) (v : Value) (a b : Int) (w : World) (hI : IsEdges w v l) (hc : gchk l = 0) (hr : dealB a = false ∨ dealB b = false) :
    Calls Tryd.prog 17 #[v, .int .i64 a, .int .i64 b] w fun e w' => e = .returned (.tuple #[.bool false, .iface 54 (.int .i64 1)]) ∧ Below w.heap.size w w' := by
  go_enter Tryd.func17, Tryd.ntmps17
  go_wp2_with fail
  refine (gcheck_ok l _ _ hI hc).mono ?_
  rintro e w1 ⟨rfl, hb1⟩
  go_wp2_with fail
  refine (isDeal_any _ _).mono ?_
  rintro e wx ⟨rfl, hwx⟩
  rw [hwx]; clear hwx
  cases ha : dealB a with
  | false =>
    go_wp2_with fail
    go_ret2
    exact ⟨rfl, hb1⟩
  | true =>
    have hb : dealB b = false := by
      rcases hr with h | h
      · rw [ha] at h; cases h
      · exact h
    clear ha hr
    go_wp2_with fail
    refine (isDeal_any _ _).mono ?_
    rintro e wx ⟨rfl, hwx⟩
    rw [hwx, hb]; clear hwx
    go_wp2_with fail
    go_ret2
    exact ⟨rfl, hb1⟩
set_option maxHeartbeats 2000000 in
theorem reach_any (l : List Edge2) (v : Value) (a b : Nat) (w : World) (hI : IsEdges w v l) (hc : gchk l = 0) (ha : dealB a = true) (hb : dealB b = true) :
    Calls Tryd.prog 17 #[v, .int .i64 a, .int .i64 b] w fun e w' => ∃ x : Bool, e = .returned (.tuple #[.bool x, .nilIface]) ∧ (x = true ↔ Way (stepsS l) a b) ∧ Below w.heap.size w w' := by
  have hl := gchk_len hc
  have HD : Hid (∀ e ∈ l, (1 ≤ e.1 ∧ e.1 ≤ 6) ∧ (1 ≤ e.2 ∧ e.2 ≤ 6)) := gchk_deal hc
  have ha6 := dealB_iff.1 ha
  have hb6 := dealB_iff.1 hb
  go_enter Tryd.func17, Tryd.ntmps17
  go_wp2_with fail
  refine (gcheck_ok l _ _ hI hc).mono ?_
  rintro e w1 ⟨rfl, hb1⟩
  go_wp2_with fail
  refine (isDeal_any _ _).mono ?_
  rintro e wx ⟨rfl, hwx⟩
  rw [hwx, ha]; clear hwx
  go_wp2_with fail
  refine (isDeal_any _ _).mono ?_
  rintro e wx ⟨rfl, hwx⟩
  rw [hwx, hb]; clear hwx
  go_wp2_with fail
  refine (stepsOf_any l _ _ (hI.below hb1 (Nat.le_refl _)) HD.out hl).mono ?_
  rintro e w2 ⟨rfl, hb2⟩
  have hb02 := hb1.trans (hb2.mono hb1.size)
  go_wp2_with fail
  refine (reached_any a (stepsS l) _ (by omega)).mono ?_
  rintro e w3 ⟨s', rfl, hs', hb3⟩
  have hb03 := hb02.trans (hb3.mono hb02.size)
  have HW : Hid (s' b = true ↔ Way (stepsS l) a b) := seen_way (fun y z h => by have := (steps_lt HD.out h).2; omega) hs' b
  have hidx : ∀ W, (Instr.index 59 (.agg #[.bool (s' 0), .bool (s' 1), .bool (s' 2), .bool (s' 3), .bool (s' 4), .bool (s' 5), .bool (s' 6)]) (.int .i64 b)).run Tryd.prog W = .ok (.bool (s' b)) W := fun W => index_row s' b (by omega) W
  clear hs'
  go_wp2_with fail
  go_ret2
  exact ⟨s' b, rfl, HW.out, hb03⟩
end Go.Proofs.YtjaeaanpbdmfgabDoor
