/-
  PROVED HERE: plain.Told tells nil as 0 and an api.Errno as its number; lanesame.Error compares that number with another one. Old memory stays as it was.
  Conditions: the variable errors.errorType holds the handle of the type error (the row lists it).
-/
import Derived.Test.YtggieffpehbfaaaDoorAs
namespace Go.Proofs.YtggieffpehbfaaaDoor
open Go.RowKit

/-- errors.errorType holds the handle of the type error. -/
def EtAt (w : World) : Prop := w.cell? ⟨0, 0, none⟩ = some (.iface 86 (.agg #[.pointer (some ⟨1, 29, none⟩)]))
theorem EtAt.lt {w : World} (h : EtAt w) : 0 < w.heap.size := by
  unfold EtAt at h
  rcases Nat.lt_or_ge 0 w.heap.size with h0 | h0
  · exact h0
  · simp [World.cell?, Array.getElem?_eq_none h0] at h
theorem EtAt.alloc {w : World} (h : EtAt w) (o : Obj) : EtAt (w.alloc o) := by
  unfold EtAt
  rw [World.cell?_alloc_lt _ _ ⟨0, 0, none⟩ h.lt]; exact h
theorem EtAt.below {w w1 : World} {B : Nat} (h : EtAt w) (hb : Below B w w1) (hB : 0 < B) : EtAt w1 := by
  unfold EtAt
  rw [hb.cell (p := ⟨0, 0, none⟩) hB]; exact h

theorem told_nil (w : World) : Calls Tryd.prog 23 #[.nilIface] w fun e w' => e = .returned (.int .i64 0) ∧ w' = w := by
  go_enter Tryd.func23, Tryd.ntmps23
  go_wp2
  go_ret
  exact ⟨rfl, rfl⟩
set_option maxHeartbeats 1000000 in
theorem told_hit (n : Int) (w : World) (hg : EtAt w) : Calls Tryd.prog 23 #[.iface 48 (.int .i64 n)] w fun e w' => e = .returned (.int .i64 n) ∧ Below w.heap.size w w' := by
  have hgA : (w.alloc (.cells #[.int .i64 0] 48)).cell? ⟨0, 0, none⟩ = some (.iface 86 (.agg #[.pointer (some ⟨1, 29, none⟩)])) := hg.alloc _
  have htA : (w.alloc (.cells #[.int .i64 0] 48)).cell? ⟨w.heap.size, 0, none⟩ = some (.int .i64 0) := by simp
  have hfA : (w.alloc (.cells #[.int .i64 0] 48)).frozen? ⟨w.heap.size, 0, none⟩ = false := by simp
  clear hg
  go_enter Tryd.func23, Tryd.ntmps23
  go_wp2_with (go_at_call 30; refine (as_hit n _ (.int .i64 0) _ hgA htA hfA).mono ?_; rintro e w' ⟨rfl, rfl⟩)
  go_ret
  exact ⟨rfl, by go_grown⟩
theorem error_nil (x : Int) (w : World) : Calls Tryd.prog 11 #[.nilIface, .int .i64 x] w fun e w' => e = .returned (.bool ((0 : Int) == x)) ∧ w' = w := by
  go_enter Tryd.func11, Tryd.ntmps11
  go_wp2_with (go_at_call 23; refine (told_nil _).mono ?_; rintro e w' ⟨rfl, rfl⟩)
  go_ret
  exact ⟨rfl, rfl⟩
theorem error_hit (n x : Int) (w : World) (hg : EtAt w) : Calls Tryd.prog 11 #[.iface 48 (.int .i64 n), .int .i64 x] w fun e w' => e = .returned (.bool (n == x)) ∧ Below w.heap.size w w' := by
  go_enter Tryd.func11, Tryd.ntmps11
  go_wp2_with (go_at_call 23; refine (told_hit n _ hg).mono ?_; rintro e w' ⟨rfl, hb⟩)
  go_ret
  exact ⟨rfl, hb⟩
end Go.Proofs.YtggieffpehbfaaaDoor
