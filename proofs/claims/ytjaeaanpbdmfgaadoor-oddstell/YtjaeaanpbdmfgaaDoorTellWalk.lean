/-
  PROVED HERE: lanelaw1.OddsTell returns true at every list of ops, every place and every second list, and what was there stays as it was.
  Conditions: the variable errors.errorType holds the handle of the type error (the row lists it).
-/
import Derived.Test.YtjaeaanpbdmfgaaDoorOddPairs
import Derived.Test.YtjaeaanpbdmfgaaDoorSameEdges
import Derived.Test.YtjaeaanpbdmfgaaDoorOddAlike
import Derived.Test.YtjaeaanpbdmfgaaDoorTold
import Derived.Test.YtjaeaanpbdmfgaaDoorSame
import Derived.Test.YtjaeaanpbdmfgaaDoorOddSwap
import Derived.Test.YtjaeaanpbdmfgaaDoorOddEdgesWalk
namespace Go.Proofs.YtjaeaanpbdmfgaaDoor
open Go.RowKit

theorem error_ok (w : World) : Calls Tryd.prog 10 #[.nilIface, .int .i64 0] w fun e w' => e = .returned (.bool true) ∧ w' = w := error_nil 0 w
theorem error_same (n : Int) (w : World) (hg : EtAt w) : Calls Tryd.prog 10 #[.iface 67 (.int .i64 n), .int .i64 n] w fun e w' => e = .returned (.bool true) ∧ Below w.heap.size w w' :=
  (error_hit n n w hg).mono fun _ _ ⟨he, hb⟩ => ⟨by rw [he]; simp, hb⟩
theorem edges_one (l : List Op3) (hc : (chk l).2 = 0) : edgesTo (doneL l) 36 = putAll (doneL l) (pairsL (doneL l)) := edges_same _ (chk_deals (chk_done hc))
theorem edges_short (l : List Op3) : (edgesTo (doneL l) 36).length ≤ 36 := by
  unfold edgesTo
  exact Nat.le_trans (List.length_filter_le ..) (List.length_take_le ..)

set_option maxHeartbeats 8000000 in
set_option maxRecDepth 100000 in
theorem tell_bad (h : List Op3) (v u : Value) (i : Int) (w : World) (hI : IsOps w v h) (hc : (chk h).2 ≠ 0) (hg : EtAt w) :
    Calls Tryd.prog 6 #[v, .int .i64 i, u] w fun e w' => e = .returned (.bool true) ∧ Below w.heap.size w w' := by
  have HIJ : Hid (∀ W, Below w.heap.size w W → IsOps W v h ∧ EtAt W) := fun W hW => ⟨hI.below hW (Nat.le_refl _), hg.below hW hg.lt⟩
  obtain ⟨ad, b, off, cap, rfl, -, -, -, -⟩ := hI
  clear hg
  obtain ⟨n, hn⟩ : ∃ n, (chk h).2 = n := ⟨_, rfl⟩
  have HC : Hid ((chk h).2 = n) := hn
  have hn0 : n ≠ 0 := by rw [← hn]; exact hc
  have hn' : (n == 0) = false := by simpa using hn0
  have HN : Hid (n ≠ 0) := hn0
  clear hn hc hn0
  go_enter Tryd.func6, Tryd.ntmps6
  go_wp2_with fail
  refine (refRight_any h _ _ (HIJ.out w (Below.refl _ _)).1).mono ?_
  rintro e w1 ⟨rfl, hb1⟩
  rw [HC.out]
  go_wp2_with fail
  go_loopw [8, 11] (fun v8 v11 wr => v8 = .slice none 0 0 ∧ v11 = .int .i64 0 ∧ Below w.heap.size w wr) (fun _ _ _ => 0)
  case atStart => exact ⟨rfl, rfl, hb1⟩
  case round =>
    clear hb1
    obtain ⟨rfl, rfl, hb1⟩ := hrel
    have HST : Hid (∀ W W', Below w.heap.size w W → Below W.heap.size W W' → Below w.heap.size w W') := fun W W' h1 h2 => h1.trans (h2.mono h1.size)
    by_cases hpos : 0 < h.length
    all_goals
      go_wp2_with fail
      refine (pairs_bad h _ _ (HIJ.out _ hb1).1 (by rw [HC.out]; exact HN.out)).mono ?_
      rintro e w2 ⟨rfl, hb2⟩
      rw [HC.out]
      have hb02 := HST.out _ _ hb1 hb2
      go_wp2_with fail
      refine (error_same n _ (HIJ.out _ hb02).2).mono ?_
      rintro e w3 ⟨rfl, hb3⟩
      have hb03 := HST.out _ _ hb02 hb3
      go_wp2_with fail
      refine (same_edges [] _ _ _ (isEdges_nil _) (isEdges_nil _) (by simp)).mono ?_
      rintro e w4 ⟨rfl, hb4⟩
      have hb04 := HST.out _ _ hb03 hb4
      clear hb1 hb2 hb02 hb3 hb03 hb4
      go_wp2_with fail
      refine (edges_bad h _ _ (HIJ.out _ hb04).1 (by rw [HC.out]; exact HN.out)).mono ?_
      rintro e w5 ⟨rfl, hb5⟩
      rw [HC.out]
      have hb05 := HST.out _ _ hb04 hb5
      go_wp2_with fail
      refine (error_same n _ (HIJ.out _ hb05).2).mono ?_
      rintro e w6 ⟨rfl, hb6⟩
      have hb06 := HST.out _ _ hb05 hb6
      go_wp2_with fail
      refine (same_edges [] _ _ _ (isEdges_nil _) (isEdges_nil _) (by simp)).mono ?_
      rintro e w7 ⟨rfl, hb7⟩
      have hb07 := HST.out _ _ hb06 hb7
      clear hb04 hb5 hb05 hb6 hb06 hb7
      go_wp2_with fail
      refine (swap_bad h _ _ _ (HIJ.out _ hb07).1 (by rw [HC.out]; exact HN.out)).mono ?_
      rintro e w8 ⟨rfl, hb8⟩
      rw [HC.out]
      have hb08 := HST.out _ _ hb07 hb8
      go_wp2_with fail
      refine (error_same n _ (HIJ.out _ hb08).2).mono ?_
      rintro e w9 ⟨rfl, hb9⟩
      have hb09 := HST.out _ _ hb08 hb9
      go_wp2_with fail
      refine (same_ops [] _ _ _ (isOps_nil _) (isOps_nil _) (by simp)).mono ?_
      rintro e w10 ⟨rfl, hb10⟩
      have hb010 := HST.out _ _ hb09 hb10
      clear hb07 hb8 hb08 hb9 hb09 hb10
      go_wp2_with fail
      refine (same_bad h _ _ _ (HIJ.out _ hb010).1 (by rw [HC.out]; exact HN.out)).mono ?_
      rintro e w11 ⟨rfl, hb11⟩
      rw [HC.out]
      have hb011 := HST.out _ _ hb010 hb11
      go_wp2_with fail
      refine (error_same n _ (HIJ.out _ hb011).2).mono ?_
      rintro e w12 ⟨rfl, hb12⟩
      have hb012 := HST.out _ _ hb011 hb12
      go_wp2
      go_ret
      exact ⟨rfl, hb012⟩
end Go.Proofs.YtjaeaanpbdmfgaaDoor
