/-
  PROVED HERE: laneref2.AtOnce answers as the plain onceK says. Old memory stays as it was.
  Conditions: none.
-/
import Derived.Test.YtjaeaanpbdmfgafDoorRefKind1
namespace Go.Proofs.YtjaeaanpbdmfgafDoor
open Go.RowKit

set_option maxHeartbeats 4000000 in
theorem once_raw (t1 b1 e1 t2 b2 e2 : Int) (s1 w1 s2 w2 : Value) (w : World) : Calls Tryd.prog 45 #[.agg #[.int .i64 t1, .int .i64 b1, .int .i64 e1, s1, w1], .agg #[.int .i64 t2, .int .i64 b2, .int .i64 e2, s2, w2]] w fun e w' => e = .returned (.bool ((decide (e2 < 0) || decide (b1 < e2)) && (decide (e1 < 0) || decide (b2 < e1)))) ∧ Below w.heap.size w w' := by
  have HB : Hid (Below w.heap.size w ((w.alloc (.cells #[.int .i64 t1, .int .i64 b1, .int .i64 e1, s1, w1] 65)).alloc (.cells #[.int .i64 t2, .int .i64 b2, .int .i64 e2, s2, w2] 65))) := ((Below.refl _ w).alloc (Nat.le_refl _) _).alloc (by simp) _
  go_enter Tryd.func45, Tryd.ntmps45
  go_wp2
  all_goals go_ret
  all_goals exact ⟨ret_bool (by first | (simp_all; done) | (simp_all; intros; omega)), HB.out⟩
theorem once_any (t1 t2 : Int) (a b : Dl) (s1 w1 s2 w2 : Value) (w : World) : Calls Tryd.prog 45 #[dlV t1 a s1 w1, dlV t2 b s2 w2] w fun e w' => e = .returned (.bool (onceK a b)) ∧ Below w.heap.size w w' := once_raw _ _ _ _ _ _ _ _ _ _ w
end Go.Proofs.YtjaeaanpbdmfgafDoor
