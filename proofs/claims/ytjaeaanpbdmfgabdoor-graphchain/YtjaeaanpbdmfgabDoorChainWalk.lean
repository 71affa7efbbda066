/-
  PROVED HERE: lanelaw4.GraphChain returns true for every number, and what was there stays as it was.
  Conditions: the variable errors.errorType holds the handle of the type error (the row lists it).
-/
import Derived.Test.YtjaeaanpbdmfgabDoorChainPlain
import Derived.Test.YtjaeaanpbdmfgabDoorGraphCalls
import Derived.Test.YtjaeaanpbdmfgabDoorTold
namespace Go.Proofs.YtjaeaanpbdmfgabDoor
open Go.RowKit

theorem error_eight (w : World) (hg : EtAt w) : Calls Tryd.prog 7 #[.iface 54 (.int .i64 8), .int .i64 8] w fun e w' => e = .returned (.bool true) ∧ Below w.heap.size w w' :=
  (error_hit 8 8 w hg).mono fun _ _ ⟨he, hb⟩ => ⟨by rw [he]; simp, hb⟩
theorem reach_up (m : Nat) (h2 : 2 ≤ m) (h6 : m ≤ 6) (v : Value) (w : World) (hI : IsEdges w v (chainK (m - 1))) :
    Calls Tryd.prog 17 #[v, .int .i64 1, .int .i64 m] w fun e w' => e = .returned (.tuple #[.bool true, .nilIface]) ∧ Below w.heap.size w w' :=
  reach_yes _ v 1 m w hI (chain_gchk h2 h6) (by decide) (dealB_iff.2 (by omega)) (chain_way h2)
theorem reach_down (m : Nat) (h2 : 2 ≤ m) (h6 : m ≤ 6) (v : Value) (w : World) (hI : IsEdges w v (chainK (m - 1))) :
    Calls Tryd.prog 17 #[v, .int .i64 m, .int .i64 1] w fun e w' => e = .returned (.tuple #[.bool false, .nilIface]) ∧ Below w.heap.size w w' :=
  reach_no _ v m 1 w hI (chain_gchk h2 h6) (dealB_iff.2 (by omega)) (by decide) (chain_back h2)
theorem rise_at (m k : Nat) (hk : k < m) : (riseI m).getD k 0 = (k : Int) + 1 := by simp [riseI, List.getD, hk]
theorem riseI_length (m : Nat) : (riseI m).length = m := by simp [riseI]

set_option maxHeartbeats 8000000 in
set_option maxRecDepth 100000 in
theorem chain_walk (m : Nat) (h2 : 2 ≤ m) (h6 : m ≤ 6) (w : World) (hg : EtAt w) :
    Calls Tryd.prog 4 #[.int .i64 m] w fun e w' => e = .returned (.bool true) ∧ Below w.heap.size w w' := by
  have HET : Hid (∀ W, Below w.heap.size w W → EtAt W) := fun W hW => hg.below hW hg.lt
  have HST : Hid (∀ W W', Below w.heap.size w W → Below W.heap.size W W' → Below w.heap.size w W') := fun W W' h1 h2 => h1.trans (h2.mono h1.size)
  obtain ⟨i0, hi, hz0, hs0, hy0⟩ := info_parts infoEdge
  have HI : Hid (Tryd.prog.info? 31 = some i0 ∧ i0.zero = some (.agg #[.int .i64 0, .int .i64 0]) ∧ i0.size = 2 ∧ i0.bytes = 16) := ⟨hi, hz0, hs0, hy0⟩
  clear hi hz0 hs0 hy0 hg
  have n2 : ¬ (m : Int) < 2 := by omega
  have n6 : ¬ (6 : Int) < (m : Int) := by omega
  go_enter Tryd.func4, Tryd.ntmps4
  go_wp2_with fail
  go_loopw [3, 4] (fun v3 v4 wr => ∃ k : Nat, k + 1 ≤ m ∧ v4 = .int .i64 ((k : Int) + 1) ∧ wr.ownsRow w.heap.size 31 2 v3 k (flatE (chainK k)) ∧ Below w.heap.size w wr) (fun _ v4 _ => m - (intOf v4).toNat)
  case atStart => exact ⟨0, by omega, rfl, World.ownsRow_nil _ _ _ _, Below.refl _ _⟩
  case round =>
    obtain ⟨k, hk, rfl, hown, hbel⟩ := hrel
    have hsz := hbel.size
    have HOWN : Hid (wr.ownsRow w.heap.size 31 2 u3 k (flatE (chainK k))) := hown
    clear hown
    by_cases hlt : k + 1 < m
    · have hlt' : (k : Int) + 1 < (m : Int) := by omega
      go_wp2_with (at_builtin; refine wpList_append_own _ rfl (.tmp 27) (.tmp 32) 22 rfl w.heap.size 31 i0 (.agg #[.int .i64 0, .int .i64 0]) 2 16 Tryd.underlying22 HI.out.1 HI.out.2.1 HI.out.2.2.1 HI.out.2.2.2 rfl (by decide) u3 k (flatE (chainK k)) rfl (HOWN.out.alloc _) ⟨wr.heap.size, 0, none⟩ 1 1 (flatE [((k : Int) + 1, (k : Int) + 1 + 1)]) rfl rfl (one_edge wr _ _) (flatE_one _) (by unfold maxLen; omega) (by omega) (by simp; omega) ?_; intro v1 w1 hown1 hgr1 hnil1)
      have hB1 := (hbel.alloc hsz _).grown hgr1 (by simp; omega) (fun m hm => (HOWN.out.lt m hm).1)
      go_roundw
      case rel => exact ⟨k + 1, by omega, by go_num, by rw [chainK_succ, flatE_append]; exact hown1, hB1⟩
      case measure => simp [intOf]; omega
    · have hlt' : ¬ (k : Int) + 1 < (m : Int) := by omega
      have hkm : k = m - 1 := by omega
      have HOWNm : Hid (wr.ownsRow w.heap.size 31 2 u3 (m - 1) (flatE (chainK (m - 1)))) := by have h1 := HOWN.out; rw [hkm] at h1; exact h1
      have hE : IsEdges wr u3 (chainK (m - 1)) := isEdges_own HOWNm.out (chainK_length _)
      have HE : Hid (∀ W, Below wr.heap.size wr W → IsEdges W u3 (chainK (m - 1)) ∧ W.ownsRow w.heap.size 31 2 u3 (m - 1) (flatE (chainK (m - 1)))) := fun W hW => ⟨hE.below hW (Nat.le_refl _), own_below HOWNm.out hW (Nat.le_refl _)⟩
      clear HOWN HOWNm hkm hE
      go_wp2_with fail
      refine (order_some _ _ _ (HE.out _ (Below.refl _ _)).1 (chain_gchk h2 h6) _ (chain_order h2 h6)).mono ?_
      rintro e w1 ⟨v5, rfl, hI5, -, hb1⟩
      obtain ⟨ad5, b5, off5, cap5, hv5, ha5, -, hbB5, hc5⟩ := hI5
      rw [riseI_length] at hv5 ha5 hc5
      subst hv5
      have hadr := ha5 (by omega)
      subst hadr
      have HC5 : Hid (∀ j, j < m → w1.cell? ⟨b5, off5 + j, none⟩ = some (.int .i64 ((j : Int) + 1))) := fun j hj => by
        have h1 := hc5 j hj
        rw [rise_at m j hj] at h1
        exact h1
      clear ha5 hbB5 hc5
      go_wp2_with fail
      go_loopw [7] (fun v7 wx => ∃ j : Nat, j ≤ m ∧ v7 = .int .i64 j ∧ wx = w1) (fun v7 _ => m - (intOf v7).toNat)
      case atStart => exact ⟨0, Nat.zero_le _, rfl, rfl⟩
      case round =>
        obtain ⟨j, hj, rfl, hwx⟩ := hrel
        rw [hwx]
        clear hwx
        by_cases hjm : j < m
        · have c0 := HC5.out j hjm
          go_wp2_with fail
          go_roundw
          case rel => exact ⟨j + 1, by omega, by go_num, trivial⟩
          case measure => simp [intOf]; omega
        · clear HC5
          go_wp2_with fail
          refine (reach_up m h2 h6 _ _ (HE.out _ hb1).1).mono ?_
          rintro e w2 ⟨rfl, hb2⟩
          have hb12 := hb1.trans (hb2.mono hb1.size)
          go_wp2_with fail
          refine (reach_down m h2 h6 _ _ (HE.out _ hb12).1).mono ?_
          rintro e w3 ⟨rfl, hb3⟩
          have hb13 := hb12.trans (hb3.mono hb12.size)
          have hb03 := HST.out _ _ hbel hb13
          have HO3 : Hid (w3.ownsRow w.heap.size 31 2 u3 (m - 1) (flatE (chainK (m - 1)))) := (HE.out _ hb13).2
          have hsz3 := hb03.size
          clear hb2 hb3 hb12 hb13 hb1 hbel HE
          go_wp2_with (at_builtin; refine wpList_append_own _ rfl (.tmp 71) (.tmp 74) 22 rfl w.heap.size 31 i0 (.agg #[.int .i64 0, .int .i64 0]) 2 16 Tryd.underlying22 HI.out.1 HI.out.2.1 HI.out.2.2.1 HI.out.2.2.2 rfl (by decide) u3 (m - 1) (flatE (chainK (m - 1))) rfl (HO3.out.alloc _) ⟨w3.heap.size, 0, none⟩ 1 1 (flatE [((m : Int), 1)]) rfl rfl (one_edge w3 _ _) (flatE_one _) (by unfold maxLen; omega) (by omega) (by simp; omega) ?_; intro v4 w4 hown4 hgr4 hnil4)
          have hb04 := (hb03.alloc hsz3 _).grown hgr4 (by simp; omega) (fun m hm => (HO3.out.lt m hm).1)
          have hE4 : IsEdges w4 v4 (closedK m) := isEdges_own (n := m - 1 + 1) (by unfold closedK; rw [flatE_append]; exact hown4) (by unfold closedK; rw [List.length_append, chainK_length]; rfl)
          clear hown4 hgr4 hnil4 hb03 HO3
          refine (order_none _ _ _ hE4 (closed_gchk h2 h6) (closed_order h2 h6)).mono ?_
          rintro e w5 ⟨rfl, hb5⟩
          have hb05 := HST.out _ _ hb04 hb5
          have hE5 := hE4.below hb5 (Nat.le_refl _)
          clear hE4 hb5 hb04
          go_wp2_with fail
          refine (ring_some _ _ _ hE5 (closed_gchk h2 h6) _ (closed_ring h2 h6)).mono ?_
          rintro e w6 ⟨v6, rfl, hI6, hb6⟩
          have hb06 := HST.out _ _ hb05 hb6
          obtain ⟨ad6, b6, off6, cap6, hv6, ha6, -, hbB6, hc6⟩ := hI6
          have hlen6 : ((riseN m).map fun (k : Nat) => (k : Int)).length = m := by simp [riseN]
          rw [hlen6] at hv6 ha6 hc6
          subst hv6
          have hadr6 := ha6 (by omega)
          subst hadr6
          have hc0 := hc6 0 (by omega)
          have h10 : ((riseN m).map fun (k : Nat) => (k : Int)).getD 0 0 = 1 := by
            simp [riseN, List.getD, show 0 < m by omega]
          rw [h10, Nat.add_zero] at hc0
          have hbl6 : b6 < w6.heap.size := by have := World.block_lt_of_cell? w6 _ hc0; simpa using this
          clear ha6 hbB6 hc6 hlen6 h10 hE5 hb05 hb6
          go_wp2_with fail
          refine (error_eight _ (HET.out _ hb06)).mono ?_
          rintro e w7 ⟨rfl, hb7⟩
          have hb07 := HST.out _ _ hb06 hb7
          have hc7 : w7.cell? ⟨b6, off6, none⟩ = some (.int .i64 1) := (hb7.cell (p := ⟨b6, off6, none⟩) hbl6).trans hc0
          clear hc0 hb7 hb06
          go_wp2_with fail
          go_ret
          exact ⟨rfl, hb07⟩
theorem chain_any (n : Int) (w : World) (hg : EtAt w) :
    Calls Tryd.prog 4 #[.int .i64 n] w fun e w' => e = .returned (.bool true) ∧ Below w.heap.size w w' := by
  by_cases h2 : n < 2
  · go_enter Tryd.func4, Tryd.ntmps4
    go_wp2_with fail
    go_ret
    exact ⟨rfl, Below.refl _ _⟩
  · by_cases h6 : 6 < n
    · go_enter Tryd.func4, Tryd.ntmps4
      go_wp2_with fail
      go_ret
      exact ⟨rfl, Below.refl _ _⟩
    · obtain ⟨m, rfl⟩ : ∃ m : Nat, n = m := ⟨n.toNat, by omega⟩
      exact chain_walk m (by omega) (by omega) w hg
end Go.Proofs.YtjaeaanpbdmfgabDoor
