/-
  PROVED HERE: lanelaw1.SerialTells returns true at a wrong list and any order, and what was there stays as it was.
  Conditions: the variable errors.errorType holds the handle of the type error (the row lists it).
-/
import Derived.Test.YtjaeaanpbdmfgabGreatDoorSerIs
import Derived.Test.YtjaeaanpbdmfgabGreatDoorMgbx
import Derived.Test.YtjaeaanpbdmfgabGreatDoorMgbm
import Derived.Test.YtjaeaanpbdmfgabGreatDoorSameInts
namespace Go.Proofs.YtjaeaanpbdmfgabGreatDoor
open Go.RowKit

set_option maxHeartbeats 8000000 in
set_option maxRecDepth 100000 in
theorem stell_bad (l : List Op3) (v u : Value) (w : World) (hI : IsOps w v l) (hc : (chk l).2 ≠ 0) (hg : EtAt w) :
    Calls Tryz.prog 3 #[v, u] w fun e w' => e = .returned (.bool true) ∧ Below w.heap.size w w' := by
  have HIE : Hid (∀ W, Below w.heap.size w W → IsOps W v l ∧ EtAt W) := fun W hW => ⟨hI.below hW (Nat.le_refl _), hg.below hW hg.lt⟩
  have HST : Hid (∀ W W', Below w.heap.size w W → Below W.heap.size W W' → Below w.heap.size w W') := fun W W' h1 h2 => h1.trans (h2.mono h1.size)
  obtain ⟨n, hn⟩ : ∃ n, (chk l).2 = n := ⟨_, rfl⟩
  have HC : Hid ((chk l).2 = n) := hn
  have hn0 : n ≠ 0 := by rw [← hn]; exact hc
  have hn' : (n == 0) = false := by simpa using hn0
  have HN : Hid ((chk l).2 ≠ 0) := hc
  have HE : Hid (∀ W, EtAt W → Calls Tryz.prog 12 #[.iface 58 (.int .i64 n), .int .i64 n] W fun e w' => e = .returned (.bool true) ∧ Below W.heap.size W w') := fun W hW => (error_hit n n W hW).mono fun _ _ ⟨he, hb⟩ => ⟨by rw [he]; simp, hb⟩
  clear hn hc hn0 hI hg
  go_enter Tryz.func3, Tryz.ntmps3
  go_wp2_with fail
  refine (refRight_any l _ _ (HIE.out w (Below.refl _ _)).1).mono ?_
  rintro e w1 ⟨rfl, hb1⟩
  rw [HC.out]
  go_wp2_with fail
  refine (ser_bad l _ _ _ (HIE.out _ hb1).1 HN.out).mono ?_
  rintro e w2 ⟨rfl, hq2⟩
  rw [HC.out]
  have hb2 := HST.out _ _ hb1 hq2
  go_wp2_with fail
  refine (HE.out _ (HIE.out _ hb2).2).mono ?_
  rintro e w3 ⟨rfl, hq3⟩
  have hb3 := HST.out _ _ hb2 hq3
  clear hb1 hq2 hb2 hq3
  go_wp2_with fail
  refine (same_ops [] _ _ _ (isOps_nil _) (isOps_nil _) (by simp)).mono ?_
  rintro e w4 ⟨rfl, hq4⟩
  have hb4 := HST.out _ _ hb3 hq4
  clear hb3 hq4
  go_wp2_with fail
  refine (ord_bad l _ _ (HIE.out _ hb4).1 HN.out).mono ?_
  rintro e w5 ⟨rfl, hq5⟩
  rw [HC.out]
  have hb5 := HST.out _ _ hb4 hq5
  clear hb4 hq5
  go_wp2_with fail
  refine (HE.out _ (HIE.out _ hb5).2).mono ?_
  rintro e w6 ⟨rfl, hq6⟩
  have hb6 := HST.out _ _ hb5 hq6
  clear hb5 hq6
  go_wp2_with fail
  refine (same_ints [] _ _ _ (isInts_nil _) (isInts_nil _) (by simp)).mono ?_
  rintro e w7 ⟨rfl, hq7⟩
  have hb7 := HST.out _ _ hb6 hq7
  clear hb6 hq7
  go_wp2_with fail
  refine (is_bad l _ _ (HIE.out _ hb7).1 HN.out).mono ?_
  rintro e w8 ⟨rfl, hq8⟩
  rw [HC.out]
  have hb8 := HST.out _ _ hb7 hq8
  clear hb7 hq8
  go_wp2_with fail
  refine (HE.out _ (HIE.out _ hb8).2).mono ?_
  rintro e w9 ⟨rfl, hq9⟩
  have hb9 := HST.out _ _ hb8 hq9
  go_wp2_with fail
  go_ret
  exact ⟨rfl, hb9⟩
end Go.Proofs.YtjaeaanpbdmfgabGreatDoor
