/-
  PROVED HERE: laneref1.Edges gives, of a right list, the edges between deals that commit, put in one by one. Old memory stays as it was.
  Conditions: none.
-/
import Derived.Test.YtmjjiehnjghndaaDoorRefOdds
import Derived.Test.YtmjjiehnjghndaaDoorRefAdd
import Derived.Test.YtmjjiehnjghndaaDoorMgaq
import Derived.Test.YtmjjiehnjghndaaDoorMgam
namespace Go.Proofs.YtmjjiehnjghndaaDoor
open Go.RowKit

theorem putAll_hit {d : List Op3} {i k : Nat} (hik : i < k) (h : oddB (opAt d i) (opAt d k) = true) : putAll d (accTo d i (k + 1)) = addE (putAll d (accTo d i k)) ((opAt d i).1, (opAt d k).1) := by
  rw [accTo_hit hik h, putAll_snoc]; simp [edgeOf]
theorem putAll_le (d : List Op3) (i k : Nat) (hl : d.length ≤ 40) (hi : i ≤ d.length) (hk : k ≤ d.length) : (putAll d (accTo d i k)).length ≤ 1640 := by
  have h1 := putAll_len d (accTo d i k) []
  have h2 := accTo_len d i k hl hi hk
  unfold putAll
  simp at h1
  omega

set_option maxHeartbeats 8000000 in
theorem refEdges_any (l : List Op3) (v : Value) (w : World) (hI : IsOps w v l) (hc : (chk l).2 = 0) :
    Calls Tryd.prog 18 #[v] w fun e w' => ∃ v', e = .returned v' ∧ IsEdges w' v' (putAll (doneL l) (pairsL (doneL l))) ∧ Below w.heap.size w w' := by
  go_enter Tryd.func18, Tryd.ntmps18
  go_wp2_with fail
  refine (refDone_any l _ _ hI hc).mono ?_
  rintro e w1 ⟨v1, rfl, hI1', hb1⟩
  have hI1 : IsOps w1 v1 (doneL l) := hI1'
  have hcd := chk_done hc
  obtain ⟨d, hd⟩ : ∃ d, doneL l = d := ⟨_, rfl⟩
  have HD : Hid (doneL l = d) := hd
  rw [hd] at hI1 hcd
  have hl := chk_len hcd
  have HOP : Hid (∀ o ∈ d, isOpB o = true) := chk_ops hcd
  clear hd hI1' hcd hc hI
  obtain ⟨ad, b, off, cap, rfl, ha, _, hbB, hops⟩ := hI1
  have HO : Hid (∀ W, Below w1.heap.size w1 W → ∀ k, k < d.length → ad = some ⟨b, off, none⟩ ∧ W.cell? ⟨b, off + k * 3, none⟩ = some (.int .i64 (opAt d k).1) ∧ W.cell? ⟨b, off + k * 3 + 1, none⟩ = some (.int .i64 (opAt d k).2.1) ∧ W.cell? ⟨b, off + k * 3 + 2, none⟩ = some (.int .i64 (opAt d k).2.2)) := fun W hW k hk => ⟨ha (by omega), (hops.below hW hbB) k hk⟩
  clear ha hbB hops
  go_wp2_with fail
  go_loopw [3, 4] (fun v3 v4 wr => ∃ i : Nat, i ≤ d.length ∧ v4 = .int .i64 i ∧ IsEdges wr v3 (putAll d (pairsTo d i)) ∧ Roomy v3 ∧ Below w1.heap.size w1 wr) (fun _ v4 _ => d.length - (intOf v4).toNat)
  case atStart => exact ⟨0, Nat.zero_le _, rfl, isEdges_nil _, ⟨none, 0, 0, rfl, Nat.le_refl _⟩, Below.refl _ _⟩
  case round =>
    obtain ⟨i, hi, rfl, hE, hR, hbel⟩ := hrel
    have HE : Hid (IsEdges wr u3 (putAll d (pairsTo d i)) ∧ Roomy u3) := ⟨hE, hR⟩
    clear hE hR
    by_cases hlt : i < d.length
    · go_wp2
      go_loopw [3, 5] (fun v3 v5 wr => ∃ j : Nat, i < j ∧ j ≤ d.length ∧ v5 = .int .i64 j ∧ IsEdges wr v3 (putAll d (accTo d i j)) ∧ Roomy v3 ∧ Below w1.heap.size w1 wr) (fun _ v5 _ => d.length - (intOf v5).toNat)
      case atStart => exact ⟨i + 1, by omega, by omega, by go_num, by rw [accTo_first]; exact HE.out.1, HE.out.2, hbel⟩
      case round =>
        clear hbel HE
        obtain ⟨j, hij, hj, rfl, hE, hR, hbel⟩ := hrel
        have HE : Hid (IsEdges wr u3 (putAll d (accTo d i j)) ∧ Roomy u3) := ⟨hE, hR⟩
        clear hE hR
        have hsz := hbel.size
        by_cases hjl : j < d.length
        · obtain ⟨hadr, c0, c1, c2⟩ := HO.out wr hbel i hlt
          subst hadr
          obtain ⟨_, d0, d1, d2⟩ := HO.out wr hbel j hjl
          have hbl : b < wr.heap.size := World.block_lt_of_cell? wr _ c0
          obtain ⟨B, hB1, hB2⟩ : ∃ B, B ≤ wr.heap.size ∧ wr.heap.size ≤ B := ⟨_, Nat.le_refl _, Nat.le_refl _⟩
          have hne : Nonempty (Later B wr) := ⟨⟨wr, Below.refl _ _⟩⟩
          have HODD0 : ∀ y : Later B wr, Calls Tryd.prog 32 #[.agg #[.int .i64 (opAt d i).1, .int .i64 (opAt d i).2.1, .int .i64 (opAt d i).2.2], .agg #[.int .i64 (opAt d j).1, .int .i64 (opAt d j).2.1, .int .i64 (opAt d j).2.2]] y.W fun e w' => e = .returned (.bool (oddB (opAt d i) (opAt d j))) ∧ ∃ z : Later B wr, w' = z.W := fun y => Later.at y hB1 (refOdds_below _ _ (HOP.out _ (opAt_mem hlt)) (HOP.out _ (opAt_mem hjl)) y.W)
          obtain ⟨⟨t, a, x⟩, ho⟩ : ∃ o : Op3, opAt d i = o := ⟨_, rfl⟩
          obtain ⟨⟨t2, a2, x2⟩, ho2⟩ : ∃ o : Op3, opAt d j = o := ⟨_, rfl⟩
          have HP : Hid (opAt d i = (t, a, x) ∧ opAt d j = (t2, a2, x2)) := ⟨ho, ho2⟩
          rw [ho] at c0 c1 c2
          rw [ho2] at d0 d1 d2
          rw [ho, ho2] at HODD0
          simp only at c0 c1 c2 d0 d1 d2 HODD0
          clear ho ho2
          have e0 : ∀ y : Later B wr, y.W.cell? ⟨b, off + i * 3, none⟩ = some (.int .i64 t) := fun y => (y.h.cell (p := ⟨b, off + i * 3, none⟩) (by simp; omega)).trans c0
          have e1 : ∀ y : Later B wr, y.W.cell? ⟨b, off + i * 3 + 1, none⟩ = some (.int .i64 a) := fun y => (y.h.cell (p := ⟨b, off + i * 3 + 1, none⟩) (by simp; omega)).trans c1
          have e2 : ∀ y : Later B wr, y.W.cell? ⟨b, off + i * 3 + 2, none⟩ = some (.int .i64 x) := fun y => (y.h.cell (p := ⟨b, off + i * 3 + 2, none⟩) (by simp; omega)).trans c2
          have g0 : ∀ y : Later B wr, y.W.cell? ⟨b, off + j * 3, none⟩ = some (.int .i64 t2) := fun y => (y.h.cell (p := ⟨b, off + j * 3, none⟩) (by simp; omega)).trans d0
          have g1 : ∀ y : Later B wr, y.W.cell? ⟨b, off + j * 3 + 1, none⟩ = some (.int .i64 a2) := fun y => (y.h.cell (p := ⟨b, off + j * 3 + 1, none⟩) (by simp; omega)).trans d1
          have g2 : ∀ y : Later B wr, y.W.cell? ⟨b, off + j * 3 + 2, none⟩ = some (.int .i64 x2) := fun y => (y.h.cell (p := ⟨b, off + j * 3 + 2, none⟩) (by simp; omega)).trans d2
          have HK : Hid (∀ y : Later B wr, y.W.cell? ⟨b, off + i * 3, none⟩ = some (.int .i64 t) ∧ y.W.cell? ⟨b, off + j * 3, none⟩ = some (.int .i64 t2)) := fun y => ⟨e0 y, g0 y⟩
          clear c0 c1 c2 d0 d1 d2
          cases hq : oddB (t, a, x) (t2, a2, x2) with
          | false =>
            have HQ : Hid (oddB (opAt d i) (opAt d j) = false) := by show oddB (opAt d i) (opAt d j) = false; rw [HP.out.1, HP.out.2]; exact hq
            rw [hq] at HODD0
            have HODD : Hid (∀ y : Later B wr, Calls Tryd.prog 32 #[.agg #[.int .i64 t, .int .i64 a, .int .i64 x], .agg #[.int .i64 t2, .int .i64 a2, .int .i64 x2]] y.W fun e w' => e = .returned (.bool false) ∧ ∃ z : Later B wr, w' = z.W) := HODD0
            clear HODD0
            go_wp2_with fail
            refine region_later B (by kernel_rfl) (by kernel_rfl) ?_
            repeat (first | go_big_quiet_skip | (go_big_quiet_want; go_big_quiet_op; first | go_big_quiet_on | (refine ⟨_, fun y => HODD.out y, ?_⟩; go_big_quiet_on)))
            refine wpQuiet_nil ?_
            intro W hW
            obtain ⟨y, rfl⟩ := hW
            go_wp2
            go_roundw
            case rel => exact ⟨j + 1, by omega, by omega, by go_num, by rw [accTo_miss HQ.out]; exact HE.out.1.below y.h hB2, HE.out.2, hbel.trans (y.h.mono (by omega))⟩
            case measure => simp [intOf]; omega
          | true =>
            have HQ : Hid (oddB (opAt d i) (opAt d j) = true) := by show oddB (opAt d i) (opAt d j) = true; rw [HP.out.1, HP.out.2]; exact hq
            rw [hq] at HODD0
            have HODD : Hid (∀ y : Later B wr, Calls Tryd.prog 32 #[.agg #[.int .i64 t, .int .i64 a, .int .i64 x], .agg #[.int .i64 t2, .int .i64 a2, .int .i64 x2]] y.W fun e w' => e = .returned (.bool true) ∧ ∃ z : Later B wr, w' = z.W) := HODD0
            clear HODD0
            go_wp2_with fail
            refine region_later B (by kernel_rfl) (by kernel_rfl) ?_
            repeat (first | go_big_quiet_skip | (go_big_quiet_want; go_big_quiet_op; first | go_big_quiet_on | (refine ⟨_, fun y => HODD.out y, ?_⟩; go_big_quiet_on)))
            refine wpQuiet_nil ?_
            intro W hW
            obtain ⟨y, hy⟩ := hW
            have hbWy : Below B wr W := by rw [hy]; exact y.h
            have k0 : W.cell? ⟨b, off + i * 3, none⟩ = some (.int .i64 t) := by rw [hy]; exact (HK.out y).1
            have k1 : W.cell? ⟨b, off + j * 3, none⟩ = some (.int .i64 t2) := by rw [hy]; exact (HK.out y).2
            have hEW : IsEdges W u3 (putAll d (accTo d i j)) := HE.out.1.below hbWy hB2
            have hb1W : Below w1.heap.size w1 W := hbel.trans (hbWy.mono (by omega))
            have hple := putAll_le d i j hl hi hj
            have HADD : Hid (∀ W', Below W.heap.size W W' → Calls Tryd.prog 33 #[u3, .agg #[.int .i64 t, .int .i64 t2]] W' fun e w' => ∃ v', e = .returned v' ∧ IsEdges w' v' (addE (putAll d (accTo d i j)) (t, t2)) ∧ Roomy v' ∧ Below W'.heap.size W' w') := fun W' hW' => refAdd_any _ t t2 u3 W' (hEW.below hW' (Nat.le_refl _)) HE.out.2 (by omega)
            clear hy e0 e1 e2 g0 g1 g2 HK hne HODD hB1 hB2 hbWy hEW hple y hbel
            go_wp2_with fail
            go_region_with (go_at_call 33; refine (HADD.out W.drew (Below.refl _ W).drew).mono ?_; rintro e w' ⟨v', rfl, hE', hR', hb'⟩)
            all_goals
              go_wp2
              go_roundw
              case rel => exact ⟨j + 1, by omega, by omega, by go_num, by rw [putAll_hit hij HQ.out, HP.out.1, HP.out.2]; exact hE', hR', hb1W.drew.trans (hb'.mono hb1W.size)⟩
              case measure => simp [intOf]; omega
        · have HJ : Hid (j = d.length) := by show j = d.length; omega
          go_wp2
          go_roundw
          case rel => exact ⟨i + 1, by omega, by go_num, by rw [← accTo_last d i j HJ.out]; exact HE.out.1, HE.out.2, hbel⟩
          case measure => simp [intOf]; omega
    · go_wp2
      go_ret
      refine ⟨_, rfl, ?_, hb1.trans (hbel.mono hb1.size)⟩
      rw [HD.out, show pairsL d = pairsTo d i by unfold pairsL; rw [show i = d.length by omega]]
      exact HE.out.1
end Go.Proofs.YtmjjiehnjghndaaDoor
