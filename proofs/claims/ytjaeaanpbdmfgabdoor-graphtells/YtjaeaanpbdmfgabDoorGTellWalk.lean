/-
  PROVED HERE: lanelaw1.GraphTells returns true at all edges and numbers, and what was there stays as it was.
  Conditions: the variable errors.errorType holds the handle of the type error (the row lists it).
-/
import Derived.Test.YtjaeaanpbdmfgabDoorRefSort
import Derived.Test.YtjaeaanpbdmfgabDoorRefRing
import Derived.Test.YtjaeaanpbdmfgabDoorGraphCalls
import Derived.Test.YtjaeaanpbdmfgabDoorSameInts
import Derived.Test.YtjaeaanpbdmfgabDoorTold
namespace Go.Proofs.YtjaeaanpbdmfgabDoor
open Go.RowKit

theorem gerr_ok (w : World) : Calls Tryd.prog 7 #[.nilIface, .int .i64 0] w fun e w' => e = .returned (.bool true) ∧ w' = w := error_nil 0 w
theorem gerr_same (n : Int) (w : World) (hg : EtAt w) : Calls Tryd.prog 7 #[.iface 54 (.int .i64 n), .int .i64 n] w fun e w' => e = .returned (.bool true) ∧ Below w.heap.size w w' :=
  (error_hit n n w hg).mono fun _ _ ⟨he, hb⟩ => ⟨by rw [he]; simp, hb⟩

set_option maxHeartbeats 8000000 in
set_option maxRecDepth 100000 in
theorem gtell_bad (l : List Edge2) (v : Value) (a b : Int) (w : World) (hI : IsEdges w v l) (hc : gchk l ≠ 0) (hg : EtAt w) :
    Calls Tryd.prog 3 #[v, .int .i64 a, .int .i64 b] w fun e w' => e = .returned (.bool true) ∧ Below w.heap.size w w' := by
  have HIE : Hid (∀ W, Below w.heap.size w W → IsEdges W v l ∧ EtAt W) := fun W hW => ⟨hI.below hW (Nat.le_refl _), hg.below hW hg.lt⟩
  have HST : Hid (∀ W W', Below w.heap.size w W → Below W.heap.size W W' → Below w.heap.size w W') := fun W W' h1 h2 => h1.trans (h2.mono h1.size)
  obtain ⟨n, hn⟩ : ∃ n, gchk l = n := ⟨_, rfl⟩
  have HC : Hid (gchk l = n) := hn
  have hn0 : n ≠ 0 := by rw [← hn]; exact hc
  have hn' : (n == 0) = false := by simpa using hn0
  have HN : Hid (n ≠ 0) := hn0
  clear hn hc hn0 hI hg
  go_enter Tryd.func3, Tryd.ntmps3
  go_wp2_with fail
  refine (refGraph_any l _ _ (HIE.out w (Below.refl _ _)).1).mono ?_
  rintro e w1 ⟨rfl, hb1⟩
  rw [HC.out]
  go_wp2_with fail
  refine (gcheck_bad l _ _ (HIE.out _ hb1).1 (by rw [HC.out]; exact HN.out)).mono ?_
  rintro e w2 ⟨rfl, hq2⟩
  rw [HC.out]
  have hb2 := HST.out _ _ hb1 hq2
  go_wp2_with fail
  refine (gerr_same n _ (HIE.out _ hb2).2).mono ?_
  rintro e w3 ⟨rfl, hqw3⟩
  have hb3 := HST.out _ _ hb2 hqw3
  clear hb1 hq2 hb2 hqw3
  go_wp2_with fail
  refine (order_bad l _ _ (HIE.out _ hb3).1 (by rw [HC.out]; exact HN.out)).mono ?_
  rintro e w4 ⟨rfl, hq4⟩
  rw [HC.out]
  have hb4 := HST.out _ _ hb3 hq4
  go_wp2_with fail
  refine (gerr_same n _ (HIE.out _ hb4).2).mono ?_
  rintro e w5 ⟨rfl, hqw5⟩
  have hb5 := HST.out _ _ hb4 hqw5
  go_wp2_with fail
  refine (same_ints [] _ _ _ (isInts_nil _) (isInts_nil _) (by simp)).mono ?_
  rintro e w6 ⟨rfl, hqw6⟩
  have hb6 := HST.out _ _ hb5 hqw6
  clear hb3 hq4 hb4 hqw5 hb5 hqw6
  go_wp2_with fail
  refine (ring_bad l _ _ (HIE.out _ hb6).1 (by rw [HC.out]; exact HN.out)).mono ?_
  rintro e w7 ⟨rfl, hq7⟩
  rw [HC.out]
  have hb7 := HST.out _ _ hb6 hq7
  go_wp2_with fail
  refine (gerr_same n _ (HIE.out _ hb7).2).mono ?_
  rintro e w8 ⟨rfl, hqw8⟩
  have hb8 := HST.out _ _ hb7 hqw8
  go_wp2_with fail
  refine (same_ints [] _ _ _ (isInts_nil _) (isInts_nil _) (by simp)).mono ?_
  rintro e w9 ⟨rfl, hqw9⟩
  have hb9 := HST.out _ _ hb8 hqw9
  clear hb6 hq7 hb7 hqw8 hb8 hqw9
  go_wp2_with fail
  refine (gTx_any _ _).mono ?_
  rintro e wx ⟨rfl, hwx⟩
  rw [hwx]; clear hwx
  go_wp2_with fail
  refine (gTx_any _ _).mono ?_
  rintro e wx ⟨rfl, hwx⟩
  rw [hwx]; clear hwx
  go_wp2_with fail
  refine (reach_bad l _ _ _ _ (HIE.out _ hb9).1 (by rw [HC.out]; exact HN.out)).mono ?_
  rintro e w10 ⟨rfl, hq10⟩
  rw [HC.out]
  have hb10 := HST.out _ _ hb9 hq10
  go_wp2_with fail
  refine (gerr_same n _ (HIE.out _ hb10).2).mono ?_
  rintro e w11 ⟨rfl, hqw11⟩
  have hb11 := HST.out _ _ hb10 hqw11
  go_wp2_with fail
  go_ret
  exact ⟨rfl, hb11⟩

theorem named_short {l : List Edge2} (hl : l.length ≤ 60) (k : Nat) : (namedI (l.take k)).length ≤ 120 := by
  have h1 := namedI_len (l.take k)
  have h2 := List.length_take_le' k l
  omega
end Go.Proofs.YtjaeaanpbdmfgabDoor
