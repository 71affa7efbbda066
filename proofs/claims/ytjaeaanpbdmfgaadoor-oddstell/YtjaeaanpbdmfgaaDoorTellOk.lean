/-
  PROVED HERE: lanelaw1.OddsTell returns true where the first list is right, and what was there stays as it was.
  Conditions: the variable errors.errorType holds the handle of the type error (the row lists it).
-/
import Derived.Test.YtjaeaanpbdmfgaaDoorTellWalk
namespace Go.Proofs.YtjaeaanpbdmfgaaDoor
open Go.RowKit

theorem pairs_end {h : List Op3} {i : Nat} (hi : i = h.length) : pairsTo h i = pairsL h := by subst hi; rfl

set_option maxHeartbeats 16000000 in
set_option maxRecDepth 100000 in
theorem tell_ok (h g : List Op3) (v u : Value) (x : Int) (w : World) (hI : IsOps w v h) (hr : Roomy v) (hJ : IsOps w u g) (hc : (chk h).2 = 0) (hg : EtAt w) :
    Calls Tryd.prog 6 #[v, .int .i64 x, u] w fun e w' => e = .returned (.bool true) ∧ Below w.heap.size w w' := by
  have HR : Hid (Roomy v) := hr
  have HIJ : Hid (∀ W, Below w.heap.size w W → IsOps W v h ∧ IsOps W u g ∧ EtAt W) := fun W hW => ⟨hI.below hW (Nat.le_refl _), hJ.below hW (Nat.le_refl _), hg.below hW hg.lt⟩
  have HST : Hid (∀ W W', Below w.heap.size w W → Below W.heap.size W W' → Below w.heap.size w W') := fun W W' h1 h2 => h1.trans (h2.mono h1.size)
  have hl := chk_len hc
  have HC : Hid ((chk h).2 = 0) := hc
  have HOP : Hid (∀ o ∈ h, isOpB o = true) := chk_ops hc
  obtain ⟨ad, b, off, cap, rfl, ha, _, hbB, hops⟩ := hI
  have HB : Hid (0 < h.length → b < w.heap.size) := fun hp => by
    rcases hbB with h1 | h1
    · exact h1
    · subst h1; simp at hp
  have HO : Hid (∀ W, Below w.heap.size w W → ∀ k, k < h.length → ad = some ⟨b, off, none⟩ ∧ W.cell? ⟨b, off + k * 3, none⟩ = some (.int .i64 (opAt h k).1) ∧ W.cell? ⟨b, off + k * 3 + 1, none⟩ = some (.int .i64 (opAt h k).2.1) ∧ W.cell? ⟨b, off + k * 3 + 2, none⟩ = some (.int .i64 (opAt h k).2.2)) := fun W hW k hk => ⟨ha (by omega), (hops.below hW hbB) k hk⟩
  obtain ⟨i0, hi, hz0, hs0, hy0⟩ := info_parts infoEdge
  have HI : Hid (Tryd.prog.info? 58 = some i0 ∧ i0.zero = some (.agg #[.int .i64 0, .int .i64 0]) ∧ i0.size = 2 ∧ i0.bytes = 16) := ⟨hi, hz0, hs0, hy0⟩
  obtain ⟨i1, hi1, hz1, hs1, hy1⟩ := info_parts infoOp
  have HI1 : Hid (Tryd.prog.info? 50 = some i1 ∧ i1.zero = some (.agg #[.int .i64 0, .int .i64 0, .int .i64 0]) ∧ i1.size = 3 ∧ i1.bytes = 24) := ⟨hi1, hz1, hs1, hy1⟩
  clear hi hz0 hs0 hy0 hi1 hz1 hs1 hy1 ha hbB hops hJ hg hr hc
  go_enter Tryd.func6, Tryd.ntmps6
  go_wp2_with fail
  refine (refRight_any h _ _ (HIJ.out w (Below.refl _ _)).1).mono ?_
  rintro e w1 ⟨rfl, hb1⟩
  rw [HC.out]
  go_wp2_with fail
  go_loopw [8, 11] (fun v8 v11 wr => ∃ i : Nat, i ≤ h.length ∧ v11 = .int .i64 i ∧ wr.ownsRow w.heap.size 58 2 v8 (pairsTo h i).length (flatE (pairsTo h i)) ∧ Below w.heap.size w wr) (fun _ v11 _ => h.length - (intOf v11).toNat)
  case atStart => exact ⟨0, Nat.zero_le _, rfl, World.ownsRow_nil _ _ _ _, hb1⟩
  case round =>
    clear hb1
    obtain ⟨i, hi, rfl, hown, hbel⟩ := hrel
    have HOWN : Hid (wr.ownsRow w.heap.size 58 2 u8 (pairsTo h i).length (flatE (pairsTo h i))) := hown
    clear hown
    by_cases hlt : i < h.length
    · go_wp2
      go_loopw [8, 12] (fun v8 v12 wr => ∃ j : Nat, i < j ∧ j ≤ h.length ∧ v12 = .int .i64 j ∧ wr.ownsRow w.heap.size 58 2 v8 (accTo h i j).length (flatE (accTo h i j)) ∧ Below w.heap.size w wr) (fun _ v12 _ => h.length - (intOf v12).toNat)
      case atStart => exact ⟨i + 1, by omega, by omega, by go_num, by rw [accTo_first]; exact HOWN.out, hbel⟩
      case round =>
        clear hbel HOWN
        obtain ⟨j, hij, hj, rfl, hown, hbel⟩ := hrel
        have hsz := hbel.size
        by_cases hjl : j < h.length
        · obtain ⟨hadr, c0, c1, c2⟩ := HO.out wr hbel i hlt
          subst hadr
          obtain ⟨_, d0, d1, d2⟩ := HO.out wr hbel j hjl
          have hbl : b < wr.heap.size := World.block_lt_of_cell? wr _ c0
          obtain ⟨B, hB1, hB2⟩ : ∃ B, B ≤ wr.heap.size ∧ wr.heap.size ≤ B := ⟨_, Nat.le_refl _, Nat.le_refl _⟩
          have hne : Nonempty (Later B wr) := ⟨⟨wr, Below.refl _ _⟩⟩
          have HODD0 : ∀ y : Later B wr, Calls Tryd.prog 26 #[.agg #[.int .i64 (opAt h i).1, .int .i64 (opAt h i).2.1, .int .i64 (opAt h i).2.2], .agg #[.int .i64 (opAt h j).1, .int .i64 (opAt h j).2.1, .int .i64 (opAt h j).2.2]] y.W fun e w' => e = .returned (.bool (oddB (opAt h i) (opAt h j))) ∧ ∃ z : Later B wr, w' = z.W := fun y => Later.at y hB1 (refOdds_below _ _ (HOP.out _ (opAt_mem hlt)) (HOP.out _ (opAt_mem hjl)) y.W)
          obtain ⟨⟨t, a, q⟩, ho⟩ : ∃ o : Op3, opAt h i = o := ⟨_, rfl⟩
          obtain ⟨⟨t2, a2, q2⟩, ho2⟩ : ∃ o : Op3, opAt h j = o := ⟨_, rfl⟩
          have HP : Hid (opAt h i = (t, a, q) ∧ opAt h j = (t2, a2, q2)) := ⟨ho, ho2⟩
          rw [ho] at c0 c1 c2
          rw [ho2] at d0 d1 d2
          rw [ho, ho2] at HODD0
          simp only at c0 c1 c2 d0 d1 d2 HODD0
          clear ho ho2
          have e0 : ∀ y : Later B wr, y.W.cell? ⟨b, off + i * 3, none⟩ = some (.int .i64 t) := fun y => (y.h.cell (p := ⟨b, off + i * 3, none⟩) (by simp; omega)).trans c0
          have e1 : ∀ y : Later B wr, y.W.cell? ⟨b, off + i * 3 + 1, none⟩ = some (.int .i64 a) := fun y => (y.h.cell (p := ⟨b, off + i * 3 + 1, none⟩) (by simp; omega)).trans c1
          have e2 : ∀ y : Later B wr, y.W.cell? ⟨b, off + i * 3 + 2, none⟩ = some (.int .i64 q) := fun y => (y.h.cell (p := ⟨b, off + i * 3 + 2, none⟩) (by simp; omega)).trans c2
          have g0 : ∀ y : Later B wr, y.W.cell? ⟨b, off + j * 3, none⟩ = some (.int .i64 t2) := fun y => (y.h.cell (p := ⟨b, off + j * 3, none⟩) (by simp; omega)).trans d0
          have g1 : ∀ y : Later B wr, y.W.cell? ⟨b, off + j * 3 + 1, none⟩ = some (.int .i64 a2) := fun y => (y.h.cell (p := ⟨b, off + j * 3 + 1, none⟩) (by simp; omega)).trans d1
          have g2 : ∀ y : Later B wr, y.W.cell? ⟨b, off + j * 3 + 2, none⟩ = some (.int .i64 q2) := fun y => (y.h.cell (p := ⟨b, off + j * 3 + 2, none⟩) (by simp; omega)).trans d2
          clear c0 c1 c2 d0 d1 d2
          have hkl := accTo_len h i j hl hi hj
          obtain ⟨n, hn⟩ : ∃ n, (accTo h i j).length = n := ⟨_, rfl⟩
          have HN : Hid ((accTo h i j).length = n) := hn
          rw [hn] at hown hkl
          have HOWN : Hid (wr.ownsRow w.heap.size 58 2 u8 n (flatE (accTo h i j))) := hown
          clear hn hown
          cases hq : oddB (t, a, q) (t2, a2, q2) with
          | false =>
            have HQ : Hid (oddB (opAt h i) (opAt h j) = false) := by show oddB (opAt h i) (opAt h j) = false; rw [HP.out.1, HP.out.2]; exact hq
            rw [hq] at HODD0
            have HODD : Hid (∀ y : Later B wr, Calls Tryd.prog 26 #[.agg #[.int .i64 t, .int .i64 a, .int .i64 q], .agg #[.int .i64 t2, .int .i64 a2, .int .i64 q2]] y.W fun e w' => e = .returned (.bool false) ∧ ∃ z : Later B wr, w' = z.W) := HODD0
            clear HODD0
            go_wp2_with fail
            refine region_later B (by kernel_rfl) (by kernel_rfl) ?_
            repeat (first | go_big_quiet_skip | (go_big_quiet_want; go_big_quiet_op; first | go_big_quiet_on | (refine ⟨_, fun y => HODD.out y, ?_⟩; go_big_quiet_on)))
            refine wpQuiet_nil ?_
            intro W hW
            obtain ⟨y, rfl⟩ := hW
            go_wp2_with fail
            go_roundw
            case rel => exact ⟨j + 1, by omega, by omega, by go_num, by rw [accTo_miss HQ.out, HN.out]; exact own_below HOWN.out y.h hB2, hbel.trans (y.h.mono (by omega))⟩
            case measure => simp [intOf]; omega
          | true =>
            have HQ : Hid (oddB (opAt h i) (opAt h j) = true) := by show oddB (opAt h i) (opAt h j) = true; rw [HP.out.1, HP.out.2]; exact hq
            rw [hq] at HODD0
            have HODD : Hid (∀ y : Later B wr, Calls Tryd.prog 26 #[.agg #[.int .i64 t, .int .i64 a, .int .i64 q], .agg #[.int .i64 t2, .int .i64 a2, .int .i64 q2]] y.W fun e w' => e = .returned (.bool true) ∧ ∃ z : Later B wr, w' = z.W) := HODD0
            clear HODD0
            go_wp2_with fail
            refine region_later B (by kernel_rfl) (by kernel_rfl) ?_
            repeat (first | go_big_quiet_skip | (go_big_quiet_want; go_big_quiet_op; first | go_big_quiet_on | (refine ⟨_, fun y => HODD.out y, ?_⟩; go_big_quiet_on)))
            refine wpQuiet_nil ?_
            intro W hW
            obtain ⟨y, hy⟩ := hW
            have hbW : Below w.heap.size w W := by rw [hy]; exact hbel.trans (y.h.mono (by omega))
            have hownW : W.ownsRow w.heap.size 58 2 u8 n (flatE (accTo h i j)) := by rw [hy]; exact own_below HOWN.out y.h hB2
            clear hy y e0 e1 e2 g0 g1 g2 HODD hne hB1 hB2 hbel HOWN hbl
            have hszW := hbW.size
            go_wp2_with (at_builtin; refine wpList_append_own _ rfl (.tmp 55) (.tmp 59) 55 rfl w.heap.size 58 i0 (.agg #[.int .i64 0, .int .i64 0]) 2 16 Tryd.underlying55 HI.out.1 HI.out.2.1 HI.out.2.2.1 HI.out.2.2.2 rfl (by decide) u8 n (flatE (accTo h i j)) rfl (hownW.alloc _) ⟨W.heap.size, 0, none⟩ 1 1 (flatE [((i : Int), (j : Int))]) rfl rfl (one_edge W i j) (flatE_one _) (by unfold maxLen; omega) (by omega) (by simp; omega) ?_; intro v1 w1 hown1 hgr1 hnil1)
            have hB1 := (hbW.alloc hszW _).grown hgr1 (by simp; omega) (fun m hm => (hownW.lt m hm).1)
            go_roundw
            case rel => exact ⟨j + 1, by omega, by omega, by go_num, by rw [accTo_hit hij HQ.out, List.length_append, HN.out, flatE_append]; exact hown1, hB1⟩
            case measure => simp [intOf]; omega
        · have HJ : Hid (j = h.length) := by show j = h.length; omega
          have HOWN : Hid (wr.ownsRow w.heap.size 58 2 u8 (accTo h i j).length (flatE (accTo h i j))) := hown
          clear hown
          go_wp2
          go_roundw
          case rel => exact ⟨i + 1, by omega, by go_num, by rw [← accTo_last h i j HJ.out]; exact HOWN.out, hbel⟩
          case measure => simp [intOf]; omega
    · have HEP : Hid (∀ W, Below wr.heap.size wr W → IsEdges W u8 (pairsL h)) := by
        have h1 : IsEdges wr u8 (pairsTo h i) := isEdges_own HOWN.out rfl
        rw [pairs_end (show i = h.length by omega)] at h1
        exact fun W hW => h1.below hW (Nat.le_refl _)
      clear HOWN
      have HB0 : Hid (Below w.heap.size w wr) := hbel
      go_wp2_with fail
      refine (refEdges_any h _ _ (HIJ.out _ hbel).1 HC.out).mono ?_
      rintro e w2 ⟨v2, rfl, hE2, hb2⟩
      have hb02 := HST.out _ _ hbel hb2
      have HE2 : Hid (IsEdges w2 v2 (edgesTo (doneL h) 36)) := by rw [edges_one h HC.out]; exact hE2
      clear hE2
      go_wp2_with fail
      refine (pairs_ok h _ _ (HIJ.out _ hb02).1 HC.out).mono ?_
      rintro e w3 ⟨v3, rfl, hE3, hb3⟩
      have hb03 := HST.out _ _ hb02 hb3
      go_wp2_with fail
      refine (error_ok _).mono ?_
      rintro e wx ⟨rfl, hwx⟩
      rw [hwx]; clear hwx
      go_wp2_with fail
      refine (same_edges (pairsL h) _ _ _ hE3 (HEP.out _ (hb2.trans (hb3.mono hb2.size))) (by have := pairsL_len h hl; omega)).mono ?_
      rintro e w4 ⟨rfl, hb4⟩
      have hb04 := HST.out _ _ hb03 hb4
      have HE4 : Hid (IsEdges w4 v2 (edgesTo (doneL h) 36)) := (HE2.out.below hb3 (Nat.le_refl _)).below hb4 (Nat.le_refl _)
      clear HE2 HEP hE3 hb2 hb3 hb4 hbel hb02 hb03
      go_wp2_with fail
      refine (edges_ok h _ _ (HIJ.out _ hb04).1 HC.out).mono ?_
      rintro e w5 ⟨v5, rfl, hE5, hb5⟩
      have hb05 := HST.out _ _ hb04 hb5
      go_wp2_with fail
      refine (error_ok _).mono ?_
      rintro e wx ⟨rfl, hwx⟩
      rw [hwx]; clear hwx
      go_wp2_with fail
      refine (same_edges _ _ _ _ hE5 (HE4.out.below hb5 (Nat.le_refl _)) (by have := edges_short h; omega)).mono ?_
      rintro e w6 ⟨rfl, hb6⟩
      have hb06 := HST.out _ _ hb05 hb6
      clear HE4 hE5 hb04 hb5 hb05 hb6
      by_cases hx : x < 0 ∨ (h.length : Int) - 1 ≤ x
      · have HX : Hid (x < 0 ∨ (h.length : Int) - 1 ≤ x) := hx
        clear hx
        by_cases hx0 : x < 0
        · go_wp2_with fail
          refine (swap_range h _ _ _ (HIJ.out _ hb06).1 HC.out HX.out).mono ?_
          rintro e w7 ⟨rfl, hb7⟩
          have hb07 := HST.out _ _ hb06 hb7
          go_wp2_with fail
          refine (error_same 1 _ (HIJ.out _ hb07).2.2).mono ?_
          rintro e w8 ⟨rfl, hb8⟩
          have hb08 := HST.out _ _ hb07 hb8
          go_wp2_with fail
          refine (same_ops [] _ _ _ (isOps_nil _) (isOps_nil _) (by simp)).mono ?_
          rintro e w9 ⟨rfl, hb9⟩
          have hb09 := HST.out _ _ hb08 hb9
          clear hb7 hb07 hb8 hb08 hb9
          go_wp2_with fail
          refine (refRight_any g _ _ (HIJ.out _ hb09).2.1).mono ?_
          rintro e w10 ⟨rfl, hb10⟩
          have hb010 := HST.out _ _ hb09 hb10
          clear hb09 hb10
          by_cases hd : (chk g).2 = 0
          · have HD : Hid ((chk g).2 = 0) := hd
            clear hd
            rw [HD.out]
            go_wp2_with fail
            refine (alike_any h g _ _ _ (HIJ.out _ hb010).1 HR.out (HIJ.out _ hb010).2.1 HC.out HD.out).mono ?_
            rintro e w11 ⟨rfl, hb11⟩
            rw [alike_same h g HC.out HD.out]
            have hb011 := HST.out _ _ hb010 hb11
            clear hb010 hb11
            go_wp2_with fail
            refine (same_ok h g _ _ _ (HIJ.out _ hb011).1 (HIJ.out _ hb011).2.1 HC.out HD.out).mono ?_
            rintro e w12 ⟨rfl, hb12⟩
            have hb012 := HST.out _ _ hb011 hb12
            clear hb011 hb12
            generalize sameB h g = sb
            go_wp2_with fail
            refine (error_ok _).mono ?_
            rintro e wx ⟨rfl, hwx⟩
            rw [hwx]; clear hwx
            cases sb
            all_goals
              go_wp2
              go_ret
              exact ⟨rfl, hb012⟩
          · obtain ⟨n, hn⟩ : ∃ n, (chk g).2 = n := ⟨_, rfl⟩
            have HD : Hid ((chk g).2 = n) := hn
            have hn0 : n ≠ 0 := by rw [← hn]; exact hd
            have hn' : (n == 0) = false := by simpa using hn0
            have HN : Hid (n ≠ 0) := hn0
            clear hn hd hn0
            rw [HD.out]
            go_wp2_with fail
            refine (same_bad2 h g _ _ _ (HIJ.out _ hb010).1 (HIJ.out _ hb010).2.1 HC.out (by rw [HD.out]; exact HN.out)).mono ?_
            rintro e w11 ⟨rfl, hb11⟩
            rw [HD.out]
            have hb011 := HST.out _ _ hb010 hb11
            clear hb010 hb11
            go_wp2_with fail
            refine (error_same n _ (HIJ.out _ hb011).2.2).mono ?_
            rintro e w12 ⟨rfl, hb12⟩
            have hb012 := HST.out _ _ hb011 hb12
            go_wp2
            go_ret
            exact ⟨rfl, hb012⟩
        · have hx1 : (h.length : Int) - 1 ≤ x := by
            rcases HX.out with h1 | h1
            · exact absurd h1 hx0
            · exact h1
          go_wp2_with fail
          refine (swap_range h _ _ _ (HIJ.out _ hb06).1 HC.out HX.out).mono ?_
          rintro e w7 ⟨rfl, hb7⟩
          have hb07 := HST.out _ _ hb06 hb7
          go_wp2_with fail
          refine (error_same 1 _ (HIJ.out _ hb07).2.2).mono ?_
          rintro e w8 ⟨rfl, hb8⟩
          have hb08 := HST.out _ _ hb07 hb8
          go_wp2_with fail
          refine (same_ops [] _ _ _ (isOps_nil _) (isOps_nil _) (by simp)).mono ?_
          rintro e w9 ⟨rfl, hb9⟩
          have hb09 := HST.out _ _ hb08 hb9
          clear hb7 hb07 hb8 hb08 hb9
          go_wp2_with fail
          refine (refRight_any g _ _ (HIJ.out _ hb09).2.1).mono ?_
          rintro e w10 ⟨rfl, hb10⟩
          have hb010 := HST.out _ _ hb09 hb10
          clear hb09 hb10
          by_cases hd : (chk g).2 = 0
          · have HD : Hid ((chk g).2 = 0) := hd
            clear hd
            rw [HD.out]
            go_wp2_with fail
            refine (alike_any h g _ _ _ (HIJ.out _ hb010).1 HR.out (HIJ.out _ hb010).2.1 HC.out HD.out).mono ?_
            rintro e w11 ⟨rfl, hb11⟩
            rw [alike_same h g HC.out HD.out]
            have hb011 := HST.out _ _ hb010 hb11
            clear hb010 hb11
            go_wp2_with fail
            refine (same_ok h g _ _ _ (HIJ.out _ hb011).1 (HIJ.out _ hb011).2.1 HC.out HD.out).mono ?_
            rintro e w12 ⟨rfl, hb12⟩
            have hb012 := HST.out _ _ hb011 hb12
            clear hb011 hb12
            generalize sameB h g = sb
            go_wp2_with fail
            refine (error_ok _).mono ?_
            rintro e wx ⟨rfl, hwx⟩
            rw [hwx]; clear hwx
            cases sb
            all_goals
              go_wp2
              go_ret
              exact ⟨rfl, hb012⟩
          · obtain ⟨n, hn⟩ : ∃ n, (chk g).2 = n := ⟨_, rfl⟩
            have HD : Hid ((chk g).2 = n) := hn
            have hn0 : n ≠ 0 := by rw [← hn]; exact hd
            have hn' : (n == 0) = false := by simpa using hn0
            have HN : Hid (n ≠ 0) := hn0
            clear hn hd hn0
            rw [HD.out]
            go_wp2_with fail
            refine (same_bad2 h g _ _ _ (HIJ.out _ hb010).1 (HIJ.out _ hb010).2.1 HC.out (by rw [HD.out]; exact HN.out)).mono ?_
            rintro e w11 ⟨rfl, hb11⟩
            rw [HD.out]
            have hb011 := HST.out _ _ hb010 hb11
            clear hb010 hb11
            go_wp2_with fail
            refine (error_same n _ (HIJ.out _ hb011).2.2).mono ?_
            rintro e w12 ⟨rfl, hb12⟩
            have hb012 := HST.out _ _ hb011 hb12
            go_wp2
            go_ret
            exact ⟨rfl, hb012⟩
      · obtain ⟨m, rfl⟩ : ∃ m : Nat, x = m := ⟨x.toNat, by omega⟩
        have hm : m + 1 < h.length := by omega
        have q1 : (m : Int) < (h.length : Int) - 1 := by omega
        clear hx
        obtain ⟨hadr, c0, c1, c2⟩ := HO.out w6 hb06 m (by omega)
        subst hadr
        obtain ⟨_, d0, d1, d2⟩ := HO.out w6 hb06 (m + 1) hm
        have hbl : b < w6.heap.size := World.block_lt_of_cell? w6 _ c0
        obtain ⟨B, hB1, hB2⟩ : ∃ B, B ≤ w6.heap.size ∧ w6.heap.size ≤ B := ⟨_, Nat.le_refl _, Nat.le_refl _⟩
        have hne : Nonempty (Later B w6) := ⟨⟨w6, Below.refl _ _⟩⟩
        have HODD0 : ∀ y : Later B w6, Calls Tryd.prog 26 #[.agg #[.int .i64 (opAt h m).1, .int .i64 (opAt h m).2.1, .int .i64 (opAt h m).2.2], .agg #[.int .i64 (opAt h (m + 1)).1, .int .i64 (opAt h (m + 1)).2.1, .int .i64 (opAt h (m + 1)).2.2]] y.W fun e w' => e = .returned (.bool (oddB (opAt h m) (opAt h (m + 1)))) ∧ ∃ z : Later B w6, w' = z.W := fun y => Later.at y hB1 (refOdds_below _ _ (HOP.out _ (opAt_mem (by omega))) (HOP.out _ (opAt_mem hm)) y.W)
        obtain ⟨⟨t, a, q⟩, ho⟩ : ∃ o : Op3, opAt h m = o := ⟨_, rfl⟩
        obtain ⟨⟨t2, a2, q2⟩, ho2⟩ : ∃ o : Op3, opAt h (m + 1) = o := ⟨_, rfl⟩
        have HP : Hid (opAt h m = (t, a, q) ∧ opAt h (m + 1) = (t2, a2, q2)) := ⟨ho, ho2⟩
        rw [ho] at c0 c1 c2
        rw [ho2] at d0 d1 d2
        rw [ho, ho2] at HODD0
        simp only at c0 c1 c2 d0 d1 d2 HODD0
        clear ho ho2
        have e0 : ∀ y : Later B w6, y.W.cell? ⟨b, off + m * 3, none⟩ = some (.int .i64 t) := fun y => (y.h.cell (p := ⟨b, off + m * 3, none⟩) (by simp; omega)).trans c0
        have e1 : ∀ y : Later B w6, y.W.cell? ⟨b, off + m * 3 + 1, none⟩ = some (.int .i64 a) := fun y => (y.h.cell (p := ⟨b, off + m * 3 + 1, none⟩) (by simp; omega)).trans c1
        have e2 : ∀ y : Later B w6, y.W.cell? ⟨b, off + m * 3 + 2, none⟩ = some (.int .i64 q) := fun y => (y.h.cell (p := ⟨b, off + m * 3 + 2, none⟩) (by simp; omega)).trans c2
        have g0 : ∀ y : Later B w6, y.W.cell? ⟨b, off + (m + 1) * 3, none⟩ = some (.int .i64 t2) := fun y => (y.h.cell (p := ⟨b, off + (m + 1) * 3, none⟩) (by simp; omega)).trans d0
        have g1 : ∀ y : Later B w6, y.W.cell? ⟨b, off + (m + 1) * 3 + 1, none⟩ = some (.int .i64 a2) := fun y => (y.h.cell (p := ⟨b, off + (m + 1) * 3 + 1, none⟩) (by simp; omega)).trans d1
        have g2 : ∀ y : Later B w6, y.W.cell? ⟨b, off + (m + 1) * 3 + 2, none⟩ = some (.int .i64 q2) := fun y => (y.h.cell (p := ⟨b, off + (m + 1) * 3 + 2, none⟩) (by simp; omega)).trans d2
        clear c0 c1 c2 d0 d1 d2
        obtain ⟨od, hod⟩ : ∃ od, oddB (t, a, q) (t2, a2, q2) = od := ⟨_, rfl⟩
        have HQ : Hid (oddB (opAt h m) (opAt h (m + 1)) = od) := by show oddB (opAt h m) (opAt h (m + 1)) = od; rw [HP.out.1, HP.out.2]; exact hod
        rw [hod] at HODD0
        have HODD : Hid (∀ y : Later B w6, Calls Tryd.prog 26 #[.agg #[.int .i64 t, .int .i64 a, .int .i64 q], .agg #[.int .i64 t2, .int .i64 a2, .int .i64 q2]] y.W fun e w' => e = .returned (.bool od) ∧ ∃ z : Later B w6, w' = z.W) := HODD0
        clear HODD0 hod
        go_wp2_with fail
        refine region_later B (by kernel_rfl) (by kernel_rfl) ?_
        repeat (first | go_big_quiet_skip | (go_big_quiet_want; go_big_quiet_op; first | go_big_quiet_on | (refine ⟨_, fun y => HODD.out y, ?_⟩; go_big_quiet_on)))
        refine wpQuiet_nil ?_
        intro W hW
        obtain ⟨y, hy⟩ := hW
        have hbW : Below w.heap.size w W := by rw [hy]; exact hb06.trans (y.h.mono (by have := hb06.size; omega))
        clear hy y e0 e1 e2 g0 g1 g2 HODD hne hB1 hB2 hb06 hbl B
        obtain ⟨_, c0, c1, c2⟩ := HO.out W hbW m (by omega)
        obtain ⟨_, d0, d1, d2⟩ := HO.out W hbW (m + 1) hm
        rw [HP.out.1] at c0 c1 c2
        rw [HP.out.2] at d0 d1 d2
        simp only at c0 c1 c2 d0 d1 d2
        cases od with
        | true =>
          clear c0 c1 c2 d0 d1 d2
          go_wp2_with fail
          go_quiet (fail)
          go_wp2_with fail
          refine (swap_clash h _ m _ (HIJ.out _ (below_drewN hbW _)).1 HC.out hm (.inr HQ.out)).mono ?_
          rintro e w7 ⟨rfl, hb7⟩
          have hb07 := HST.out _ _ (below_drewN hbW _) hb7
          go_wp2_with fail
          refine (error_same 7 _ (HIJ.out _ hb07).2.2).mono ?_
          rintro e w8 ⟨rfl, hb8⟩
          have hb08 := HST.out _ _ hb07 hb8
          go_wp2_with fail
          refine (same_ops [] _ _ _ (isOps_nil _) (isOps_nil _) (by simp)).mono ?_
          rintro e w9 ⟨rfl, hb9⟩
          have hb09 := HST.out _ _ hb08 hb9
          clear hb7 hb07 hb8 hb08 hb9
          go_wp2_with fail
          refine (refRight_any g _ _ (HIJ.out _ hb09).2.1).mono ?_
          rintro e w10 ⟨rfl, hb10⟩
          have hb010 := HST.out _ _ hb09 hb10
          clear hb09 hb10
          by_cases hd : (chk g).2 = 0
          · have HD : Hid ((chk g).2 = 0) := hd
            clear hd
            rw [HD.out]
            go_wp2_with fail
            refine (alike_any h g _ _ _ (HIJ.out _ hb010).1 HR.out (HIJ.out _ hb010).2.1 HC.out HD.out).mono ?_
            rintro e w11 ⟨rfl, hb11⟩
            rw [alike_same h g HC.out HD.out]
            have hb011 := HST.out _ _ hb010 hb11
            clear hb010 hb11
            go_wp2_with fail
            refine (same_ok h g _ _ _ (HIJ.out _ hb011).1 (HIJ.out _ hb011).2.1 HC.out HD.out).mono ?_
            rintro e w12 ⟨rfl, hb12⟩
            have hb012 := HST.out _ _ hb011 hb12
            clear hb011 hb12
            generalize sameB h g = sb
            go_wp2_with fail
            refine (error_ok _).mono ?_
            rintro e wx ⟨rfl, hwx⟩
            rw [hwx]; clear hwx
            cases sb
            all_goals
              go_wp2
              go_ret
              exact ⟨rfl, hb012⟩
          · obtain ⟨n, hn⟩ : ∃ n, (chk g).2 = n := ⟨_, rfl⟩
            have HD : Hid ((chk g).2 = n) := hn
            have hn0 : n ≠ 0 := by rw [← hn]; exact hd
            have hn' : (n == 0) = false := by simpa using hn0
            have HN : Hid (n ≠ 0) := hn0
            clear hn hd hn0
            rw [HD.out]
            go_wp2_with fail
            refine (same_bad2 h g _ _ _ (HIJ.out _ hb010).1 (HIJ.out _ hb010).2.1 HC.out (by rw [HD.out]; exact HN.out)).mono ?_
            rintro e w11 ⟨rfl, hb11⟩
            rw [HD.out]
            have hb011 := HST.out _ _ hb010 hb11
            clear hb010 hb11
            go_wp2_with fail
            refine (error_same n _ (HIJ.out _ hb011).2.2).mono ?_
            rintro e w12 ⟨rfl, hb12⟩
            have hb012 := HST.out _ _ hb011 hb12
            go_wp2
            go_ret
            exact ⟨rfl, hb012⟩
        | false =>
          by_cases htt : t = t2
          · have HTT : Hid (t = t2) := htt
            subst htt
            go_wp2_with fail
            go_quiet (fail)
            go_wp2_with fail
            refine (swap_clash h _ m _ (HIJ.out _ (below_drewN hbW _)).1 HC.out hm (.inl (by rw [HP.out.1, HP.out.2]))).mono ?_
            clear c0 c1 c2 d0 d1 d2
            rintro e w7 ⟨rfl, hb7⟩
            have hb07 := HST.out _ _ (below_drewN hbW _) hb7
            go_wp2_with fail
            refine (error_same 7 _ (HIJ.out _ hb07).2.2).mono ?_
            rintro e w8 ⟨rfl, hb8⟩
            have hb08 := HST.out _ _ hb07 hb8
            go_wp2_with fail
            refine (same_ops [] _ _ _ (isOps_nil _) (isOps_nil _) (by simp)).mono ?_
            rintro e w9 ⟨rfl, hb9⟩
            have hb09 := HST.out _ _ hb08 hb9
            clear hb7 hb07 hb8 hb08 hb9
            go_wp2_with fail
            refine (refRight_any g _ _ (HIJ.out _ hb09).2.1).mono ?_
            rintro e w10 ⟨rfl, hb10⟩
            have hb010 := HST.out _ _ hb09 hb10
            clear hb09 hb10
            by_cases hd : (chk g).2 = 0
            · have HD : Hid ((chk g).2 = 0) := hd
              clear hd
              rw [HD.out]
              go_wp2_with fail
              refine (alike_any h g _ _ _ (HIJ.out _ hb010).1 HR.out (HIJ.out _ hb010).2.1 HC.out HD.out).mono ?_
              rintro e w11 ⟨rfl, hb11⟩
              rw [alike_same h g HC.out HD.out]
              have hb011 := HST.out _ _ hb010 hb11
              clear hb010 hb11
              go_wp2_with fail
              refine (same_ok h g _ _ _ (HIJ.out _ hb011).1 (HIJ.out _ hb011).2.1 HC.out HD.out).mono ?_
              rintro e w12 ⟨rfl, hb12⟩
              have hb012 := HST.out _ _ hb011 hb12
              clear hb011 hb12
              generalize sameB h g = sb
              go_wp2_with fail
              refine (error_ok _).mono ?_
              rintro e wx ⟨rfl, hwx⟩
              rw [hwx]; clear hwx
              cases sb
              all_goals
                go_wp2
                go_ret
                exact ⟨rfl, hb012⟩
            · obtain ⟨n, hn⟩ : ∃ n, (chk g).2 = n := ⟨_, rfl⟩
              have HD : Hid ((chk g).2 = n) := hn
              have hn0 : n ≠ 0 := by rw [← hn]; exact hd
              have hn' : (n == 0) = false := by simpa using hn0
              have HN : Hid (n ≠ 0) := hn0
              clear hn hd hn0
              rw [HD.out]
              go_wp2_with fail
              refine (same_bad2 h g _ _ _ (HIJ.out _ hb010).1 (HIJ.out _ hb010).2.1 HC.out (by rw [HD.out]; exact HN.out)).mono ?_
              rintro e w11 ⟨rfl, hb11⟩
              rw [HD.out]
              have hb011 := HST.out _ _ hb010 hb11
              clear hb010 hb11
              go_wp2_with fail
              refine (error_same n _ (HIJ.out _ hb011).2.2).mono ?_
              rintro e w12 ⟨rfl, hb12⟩
              have hb012 := HST.out _ _ hb011 hb12
              go_wp2
              go_ret
              exact ⟨rfl, hb012⟩
          · have hq' : (t == t2) = false := by simpa using htt
            have HTT : Hid (t ≠ t2) := htt
            clear htt
            go_wp2_with fail
            go_quiet (fail)
            have hb2 : ∀ n, Below w.heap.size w (W.drewN n) := fun n => below_drewN hbW n
            clear c0 c1 c2 d0 d1 d2 hq'
            have HB2 : Hid (∀ n, Below w.heap.size w (W.drewN n)) := hb2
            have HFL : Hid (∀ W', Below w.heap.size w W' → ∀ j u, (flat h)[j]? = some u → W'.cell? ⟨b, off + j, none⟩ = some u) := fun W' hW' => by
              have hat : OpsAt W' b off h := fun k hk => (HO.out W' hW' k hk).2
              exact hat.flat
            clear hb2 hbW
            go_wp2_with (
              at_builtin
              refine wpList_append_own _ rfl (.tmp 132) (.tmp 133) 22 rfl w.heap.size 50 i1 (.agg #[.int .i64 0, .int .i64 0, .int .i64 0]) 3 24 Tryd.underlying22 HI1.out.1 HI1.out.2.1 HI1.out.2.2.1 HI1.out.2.2.2 rfl (by decide) (.slice none 0 0) 0 [] rfl (World.ownsRow_nil _ _ _ _) ⟨b, off, none⟩ h.length cap (flat h) rfl (flat_length h) (fun j u hj => by rw [Addr.add_lit]; exact HFL.out _ (HB2.out _) j u hj) (flat_one h) (by unfold maxLen; omega) (by omega) (HB2.out _).size ?_
              intro v1 w1 hown1 hgr1 hnil1
              have hB1 : Below w.heap.size w w1 := (HB2.out _).grown hgr1 (HB2.out _).size (by intro k hk; simp [Value.ownBlock] at hk)
              rw [Nat.zero_add, List.nil_append] at hown1
              obtain ⟨d, cap3, rfl, hgb⟩ : ∃ d c, v1 = .slice (some ⟨d, 0, none⟩) h.length c ∧ w.heap.size ≤ d := by
                have h' := hown1
                obtain ⟨_, ⟨hv, _⟩ | ⟨d, c, cur, hv, hb, _⟩⟩ := h'
                · exact absurd (hnil1.1 hv).2 (by omega)
                · exact ⟨d, c, hv, hb⟩
              clear hnil1 hgr1
              have hbd : b < d := by have := HB.out (by omega); omega
              have hne : b ≠ d := by omega
              have hdl := (hown1.lt d rfl).2
              obtain ⟨_, c0, c1, c2⟩ := HO.out w1 hB1 m (by omega)
              obtain ⟨_, d0, d1, d2⟩ := HO.out w1 hB1 (m + 1) hm
              rw [HP.out.1] at c0 c1 c2
              rw [HP.out.2] at d0 d1 d2
              simp only at c0 c1 c2 d0 d1 d2
              have HOWN : Hid (w1.ownsRow w.heap.size 50 3 (.slice (some ⟨d, 0, none⟩) h.length cap3) h.length (flat h)) := hown1
              have hat : OpsAt w1 d 0 h := opsAt_of fun j u hj => by
                have := hown1.cells (g := d) rfl j u hj
                rw [Addr.add_lit] at this
                exact this
              obtain ⟨n0, n1, n2⟩ := hat m (by omega)
              obtain ⟨p0, p1, p2⟩ := hat (m + 1) hm
              have z0 := hown1.frozenAt (m * 3)
              have z1 := hown1.frozenAt (m * 3 + 1)
              have z2 := hown1.frozenAt (m * 3 + 2)
              have y0 := hown1.frozenAt ((m + 1) * 3)
              have y1 := hown1.frozenAt ((m + 1) * 3 + 1)
              have y2 := hown1.frozenAt ((m + 1) * 3 + 2)
              rw [Nat.zero_add] at n0 n1 n2 p0 p1 p2
              clear hat hown1)
            obtain ⟨W6, hW6⟩ : ∃ W6, W6 = ((((((w1.setCell ⟨d, m * 3, none⟩ (.int .i64 t2)).setCell ⟨d, m * 3 + 1, none⟩ (.int .i64 a2)).setCell ⟨d, m * 3 + 2, none⟩ (.int .i64 q2)).setCell ⟨d, (m + 1) * 3, none⟩ (.int .i64 t)).setCell ⟨d, (m + 1) * 3 + 1, none⟩ (.int .i64 a)).setCell ⟨d, (m + 1) * 3 + 2, none⟩ (.int .i64 q)) := ⟨_, rfl⟩
            have hown6 := ((((((HOWN.out.stored (m * 3) (.int .i64 t2)).1.stored (m * 3 + 1) (.int .i64 a2)).1.stored (m * 3 + 2) (.int .i64 q2)).1.stored ((m + 1) * 3) (.int .i64 t)).1.stored ((m + 1) * 3 + 1) (.int .i64 a)).1.stored ((m + 1) * 3 + 2) (.int .i64 q)).1
            have HS6 : Hid (IsOps W6 (.slice (some ⟨d, 0, none⟩) h.length cap3) (swapL h m)) := by
              refine isOps_own (base := w.heap.size) (e := 50) (n := h.length) ?_ (by simp [swapL])
              unfold swapL
              rw [HP.out.1, HP.out.2, flat_set, flat_set, hW6]
              exact hown6
            have hb06 : Below w.heap.size w W6 := by
              rw [hW6]
              exact (((((hB1.setCell (by exact hgb) _).setCell (by exact hgb) _).setCell (by exact hgb) _).setCell (by exact hgb) _).setCell (by exact hgb) _).setCell (by exact hgb) _
            rw [← hW6]
            clear hW6 hown6 HOWN hB1 c0 c1 c2 d0 d1 d2 n0 n1 n2 p0 p1 p2 z0 z1 z2 y0 y1 y2
            refine (swap_ok h _ m _ (HIJ.out _ hb06).1 HC.out hm (by rw [HP.out.1, HP.out.2]; exact HTT.out) HQ.out).mono ?_
            rintro e w7 ⟨v7, rfl, hI7, hb7⟩
            have hb07 := HST.out _ _ hb06 hb7
            go_wp2_with fail
            refine (error_ok _).mono ?_
            rintro e wx ⟨rfl, hwx⟩
            rw [hwx]; clear hwx
            go_wp2_with fail
            refine (same_ops (swapL h m) _ _ _ hI7 (HS6.out.below hb7 (Nat.le_refl _)) (by simp [swapL]; omega)).mono ?_
            rintro e w9 ⟨rfl, hb9⟩
            have hb09 := HST.out _ _ hb07 hb9
            clear hb7 hb07 hb9 hI7 HS6 hb06
            go_wp2_with fail
            refine (refRight_any g _ _ (HIJ.out _ hb09).2.1).mono ?_
            rintro e w10 ⟨rfl, hb10⟩
            have hb010 := HST.out _ _ hb09 hb10
            clear hb09 hb10
            by_cases hd : (chk g).2 = 0
            · have HD : Hid ((chk g).2 = 0) := hd
              clear hd
              rw [HD.out]
              go_wp2_with fail
              refine (alike_any h g _ _ _ (HIJ.out _ hb010).1 HR.out (HIJ.out _ hb010).2.1 HC.out HD.out).mono ?_
              rintro e w11 ⟨rfl, hb11⟩
              rw [alike_same h g HC.out HD.out]
              have hb011 := HST.out _ _ hb010 hb11
              clear hb010 hb11
              go_wp2_with fail
              refine (same_ok h g _ _ _ (HIJ.out _ hb011).1 (HIJ.out _ hb011).2.1 HC.out HD.out).mono ?_
              rintro e w12 ⟨rfl, hb12⟩
              have hb012 := HST.out _ _ hb011 hb12
              clear hb011 hb12
              generalize sameB h g = sb
              go_wp2_with fail
              refine (error_ok _).mono ?_
              rintro e wx ⟨rfl, hwx⟩
              rw [hwx]; clear hwx
              cases sb
              all_goals
                go_wp2
                go_ret
                exact ⟨rfl, hb012⟩
            · obtain ⟨n, hn⟩ : ∃ n, (chk g).2 = n := ⟨_, rfl⟩
              have HD : Hid ((chk g).2 = n) := hn
              have hn0 : n ≠ 0 := by rw [← hn]; exact hd
              have hn' : (n == 0) = false := by simpa using hn0
              have HN : Hid (n ≠ 0) := hn0
              clear hn hd hn0
              rw [HD.out]
              go_wp2_with fail
              refine (same_bad2 h g _ _ _ (HIJ.out _ hb010).1 (HIJ.out _ hb010).2.1 HC.out (by rw [HD.out]; exact HN.out)).mono ?_
              rintro e w11 ⟨rfl, hb11⟩
              rw [HD.out]
              have hb011 := HST.out _ _ hb010 hb11
              clear hb010 hb11
              go_wp2_with fail
              refine (error_same n _ (HIJ.out _ hb011).2.2).mono ?_
              rintro e w12 ⟨rfl, hb12⟩
              have hb012 := HST.out _ _ hb011 hb12
              go_wp2
              go_ret
              exact ⟨rfl, hb012⟩
end Go.Proofs.YtjaeaanpbdmfgaaDoor
