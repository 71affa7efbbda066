/-
  PROVED HERE: laneref1.Alike tells of two right lists whether they have the same ops of each deal, and no two that are at odds stand in another order. Old memory stays as it was.
  Conditions: none.
-/
import Derived.Test.YtjaeaanpbdmfgaaDoorRefDeals
import Derived.Test.YtjaeaanpbdmfgaaDoorRefPlace
import Derived.Test.YtjaeaanpbdmfgaaDoorOddFunc
import Derived.Test.YtjaeaanpbdmfgaaDoorRegionMix
namespace Go.Proofs.YtjaeaanpbdmfgaaDoor
open Go.RowKit

/-- Two that are at odds stand in another order. -/
def outB (h g : List Op3) (p : Edge2) : Bool := decide (placeI g (opAt h p.2.toNat).1 (nthAt h p.2.toNat) < placeI g (opAt h p.1.toNat).1 (nthAt h p.1.toNat))
def alikeB (h g : List Op3) : Bool := eqTo h g 6 && !(pairsL h).any (outB h g)

set_option maxHeartbeats 8000000 in
set_option maxRecDepth 100000 in
theorem alike_any (h g : List Op3) (v u : Value) (w : World) (hI : IsOps w v h) (hr : Roomy v) (hJ : IsOps w u g) (hc : (chk h).2 = 0) (hd : (chk g).2 = 0) :
    Calls Tryd.prog 32 #[v, u] w fun e w' => e = .returned (.bool (alikeB h g)) ∧ Below w.heap.size w w' := by
  have hl := chk_len hc
  have hl2 := chk_len hd
  have HOP : Hid (∀ o ∈ h, isOpB o = true) := chk_ops hc
  have HIJ : Hid (∀ W, Below w.heap.size w W → IsOps W v h ∧ IsOps W u g) := fun W hW => ⟨hI.below hW (Nat.le_refl _), hJ.below hW (Nat.le_refl _)⟩
  obtain ⟨ad, b, off, cap, rfl, ha, hnn, hbB, hops⟩ := hI
  have hcap : h.length ≤ cap := by
    obtain ⟨_, _, _, he, hle⟩ := hr
    simp only [Value.slice.injEq] at he
    omega
  have HO : Hid (∀ W, Below w.heap.size w W → ∀ k, k < h.length → ad = some ⟨b, off, none⟩ ∧ W.cell? ⟨b, off + k * 3, none⟩ = some (.int .i64 (opAt h k).1) ∧ W.cell? ⟨b, off + k * 3 + 1, none⟩ = some (.int .i64 (opAt h k).2.1) ∧ W.cell? ⟨b, off + k * 3 + 2, none⟩ = some (.int .i64 (opAt h k).2.2)) := fun W hW k hk => ⟨ha (by omega), (hops.below hW hbB) k hk⟩
  -- a beginning of the list, as a slice
  have HPRE : Hid (∀ W, Below w.heap.size w W → ∀ k, k ≤ h.length → 0 < h.length → IsOps W (.slice (some ⟨b, off, none⟩) k cap) (h.take k)) := fun W hW k hk hpos => by
    have hlk : (h.take k).length = k := by rw [List.length_take, Nat.min_eq_left hk]
    have hb1 : b < w.heap.size := by
      rcases hbB with h1 | h1
      · exact h1
      · subst h1; simp at hpos
    refine ⟨some ⟨b, off, none⟩, b, off, cap, by rw [hlk], fun _ => rfl, fun h => (by cases h), .inl (Nat.lt_of_lt_of_le hb1 hW.size), fun i hi => ?_⟩
    have hik : i < k := by rw [hlk] at hi; exact hi
    have := (hops.below hW hbB) i (by omega)
    rw [show (h.take k).getD i (0, 0, 0) = h.getD i (0, 0, 0) by simp [List.getD, hik]]
    exact this
  clear ha hbB hops hr hnn hJ hc hd
  go_enter Tryd.func32, Tryd.ntmps32
  go_wp2_with fail
  refine (sameDeals_any h g _ _ _ (HIJ.out w (Below.refl _ _)).1 (HIJ.out w (Below.refl _ _)).2 hl hl2).mono ?_
  rintro e w1 ⟨rfl, hb1⟩
  cases heq : eqTo h g 6 with
  | false =>
    have HR : Hid (alikeB h g = false) := by show alikeB h g = false; unfold alikeB; rw [heq]; rfl
    go_wp2
    go_ret
    exact ⟨by rw [HR.out]; rfl, hb1⟩
  | true =>
    have HEQ : Hid (alikeB h g = !(pairsL h).any (outB h g)) := by show alikeB h g = _; unfold alikeB; rw [heq]; rfl
    clear heq
    go_wp2_with fail
    go_loopw [6] (fun v6 wr => ∃ i : Nat, i ≤ h.length ∧ v6 = .int .i64 i ∧ (pairsTo h i).any (outB h g) = false ∧ Below w.heap.size w wr) (fun v6 _ => h.length - (intOf v6).toNat)
    case atStart => exact ⟨0, Nat.zero_le _, rfl, rfl, hb1⟩
    case round =>
      clear hb1
      obtain ⟨i, hi, rfl, hno, hbel⟩ := hrel
      have HNO : Hid ((pairsTo h i).any (outB h g) = false) := hno
      clear hno
      by_cases hlt : i < h.length
      · go_wp2
        go_loopw [7] (fun v7 wr => ∃ j : Nat, i < j ∧ j ≤ h.length ∧ v7 = .int .i64 j ∧ (accTo h i j).any (outB h g) = false ∧ Below w.heap.size w wr) (fun v7 _ => h.length - (intOf v7).toNat)
        case atStart => exact ⟨i + 1, by omega, by omega, by go_num, by rw [accTo_first]; exact HNO.out, hbel⟩
        case round =>
          clear hbel HNO
          obtain ⟨j, hij, hj, rfl, hno, hbel⟩ := hrel
          have HNO : Hid ((accTo h i j).any (outB h g) = false) := hno
          clear hno
          have hsz := hbel.size
          by_cases hjl : j < h.length
          · obtain ⟨hadr, c0, c1, c2⟩ := HO.out wr hbel i hlt
            subst hadr
            obtain ⟨_, d0, d1, d2⟩ := HO.out wr hbel j hjl
            have hbl : b < wr.heap.size := World.block_lt_of_cell? wr _ c0
            obtain ⟨B, hB1, hB2⟩ : ∃ B, B ≤ wr.heap.size ∧ wr.heap.size ≤ B := ⟨_, Nat.le_refl _, Nat.le_refl _⟩
            have hne : Nonempty (Later B wr) := ⟨⟨wr, Below.refl _ _⟩⟩
            have HODD0 : ∀ y : Later B wr, Calls Tryd.prog 26 #[.agg #[.int .i64 (opAt h i).1, .int .i64 (opAt h i).2.1, .int .i64 (opAt h i).2.2], .agg #[.int .i64 (opAt h j).1, .int .i64 (opAt h j).2.1, .int .i64 (opAt h j).2.2]] y.W fun e w' => e = .returned (.bool (oddB (opAt h i) (opAt h j))) ∧ ∃ z : Later B wr, w' = z.W := fun y => Later.at y hB1 (refOdds_below _ _ (HOP.out _ (opAt_mem hlt)) (HOP.out _ (opAt_mem hjl)) y.W)
            obtain ⟨⟨t, a, x⟩, ho⟩ : ∃ o : Op3, opAt h i = o := ⟨_, rfl⟩
            obtain ⟨⟨t2, a2, x2⟩, ho2⟩ : ∃ o : Op3, opAt h j = o := ⟨_, rfl⟩
            have HP : Hid (opAt h i = (t, a, x) ∧ opAt h j = (t2, a2, x2)) := ⟨ho, ho2⟩
            rw [ho] at c0 c1 c2
            rw [ho2] at d0 d1 d2
            rw [ho, ho2] at HODD0
            simp only at c0 c1 c2 d0 d1 d2 HODD0
            clear ho ho2
            have e0 : ∀ y : Later B wr, y.W.cell? ⟨b, off + i * 3, none⟩ = some (.int .i64 t) := fun y => (y.h.cell (p := ⟨b, off + i * 3, none⟩) (by simp; omega)).trans c0
            have e1 : ∀ y : Later B wr, y.W.cell? ⟨b, off + i * 3 + 1, none⟩ = some (.int .i64 a) := fun y => (y.h.cell (p := ⟨b, off + i * 3 + 1, none⟩) (by simp; omega)).trans c1
            have e2 : ∀ y : Later B wr, y.W.cell? ⟨b, off + i * 3 + 2, none⟩ = some (.int .i64 x) := fun y => (y.h.cell (p := ⟨b, off + i * 3 + 2, none⟩) (by simp; omega)).trans c2
            have g0 : ∀ y : Later B wr, y.W.cell? ⟨b, off + j * 3, none⟩ = some (.int .i64 t2) := fun y => (y.h.cell (p := ⟨b, off + j * 3, none⟩) (by simp; omega)).trans d0
            have g1 : ∀ y : Later B wr, y.W.cell? ⟨b, off + j * 3 + 1, none⟩ = some (.int .i64 a2) := fun y => (y.h.cell (p := ⟨b, off + j * 3 + 1, none⟩) (by simp; omega)).trans d1
            have g2 : ∀ y : Later B wr, y.W.cell? ⟨b, off + j * 3 + 2, none⟩ = some (.int .i64 x2) := fun y => (y.h.cell (p := ⟨b, off + j * 3 + 2, none⟩) (by simp; omega)).trans d2
            have HK : Hid (∀ y : Later B wr, y.W.cell? ⟨b, off + i * 3, none⟩ = some (.int .i64 t) ∧ y.W.cell? ⟨b, off + j * 3, none⟩ = some (.int .i64 t2)) := fun y => ⟨e0 y, g0 y⟩
            clear c0 c1 c2 d0 d1 d2
            cases hq : oddB (t, a, x) (t2, a2, x2) with
            | false =>
              have HQ : Hid (oddB (opAt h i) (opAt h j) = false) := by show oddB (opAt h i) (opAt h j) = false; rw [HP.out.1, HP.out.2]; exact hq
              rw [hq] at HODD0
              have HODD : Hid (∀ y : Later B wr, Calls Tryd.prog 26 #[.agg #[.int .i64 t, .int .i64 a, .int .i64 x], .agg #[.int .i64 t2, .int .i64 a2, .int .i64 x2]] y.W fun e w' => e = .returned (.bool false) ∧ ∃ z : Later B wr, w' = z.W) := HODD0
              clear HODD0
              go_wp2_with fail
              refine region_later B (by kernel_rfl) (by kernel_rfl) ?_
              repeat (first | go_big_quiet_skip | (go_big_quiet_want; go_big_quiet_op; first | go_big_quiet_on | (refine ⟨_, fun y => HODD.out y, ?_⟩; go_big_quiet_on)))
              refine wpQuiet_nil ?_
              intro W hW
              obtain ⟨y, rfl⟩ := hW
              go_wp2_with fail
              go_quiet (fail)
              go_wp2
              go_roundw
              case rel => exact ⟨j + 1, by omega, by omega, by go_num, by rw [accTo_miss HQ.out]; exact HNO.out, below_drewN (hbel.trans (y.h.mono (by omega))) _⟩
              case measure => simp [intOf]; omega
            | true =>
              have HQ : Hid (oddB (opAt h i) (opAt h j) = true) := by show oddB (opAt h i) (opAt h j) = true; rw [HP.out.1, HP.out.2]; exact hq
              rw [hq] at HODD0
              have HODD : Hid (∀ y : Later B wr, Calls Tryd.prog 26 #[.agg #[.int .i64 t, .int .i64 a, .int .i64 x], .agg #[.int .i64 t2, .int .i64 a2, .int .i64 x2]] y.W fun e w' => e = .returned (.bool true) ∧ ∃ z : Later B wr, w' = z.W) := HODD0
              clear HODD0
              go_wp2_with fail
              refine region_later B (by kernel_rfl) (by kernel_rfl) ?_
              repeat (first | go_big_quiet_skip | (go_big_quiet_want; go_big_quiet_op; first | go_big_quiet_on | (refine ⟨_, fun y => HODD.out y, ?_⟩; go_big_quiet_on)))
              refine wpQuiet_nil ?_
              intro W hW
              obtain ⟨y, hy⟩ := hW
              have hbWy : Below B wr W := by rw [hy]; exact y.h
              have k0 : W.cell? ⟨b, off + i * 3, none⟩ = some (.int .i64 t) := by rw [hy]; exact (HK.out y).1
              have k1 : W.cell? ⟨b, off + j * 3, none⟩ = some (.int .i64 t2) := by rw [hy]; exact (HK.out y).2
              have hb0W : Below w.heap.size w W := hbel.trans (hbWy.mono (by omega))
              clear hy e0 e1 e2 g0 g1 g2 HK hne HODD hB1 hB2 hbWy y hbel hsz
              have hbW : b < W.heap.size := World.block_lt_of_cell? W _ k0
              obtain ⟨B2, hC1, hC2⟩ : ∃ B2, B2 ≤ W.heap.size ∧ W.heap.size ≤ B2 := ⟨_, Nat.le_refl _, Nat.le_refl _⟩
              have hne : Nonempty (Later B2 W) := ⟨⟨W, Below.refl _ _⟩⟩
              have e0 : ∀ y : Later B2 W, y.W.cell? ⟨b, off + i * 3, none⟩ = some (.int .i64 t) := fun y => (y.h.cell (p := ⟨b, off + i * 3, none⟩) (by simp; omega)).trans k0
              have e1 : ∀ y : Later B2 W, y.W.cell? ⟨b, off + j * 3, none⟩ = some (.int .i64 t2) := fun y => (y.h.cell (p := ⟨b, off + j * 3, none⟩) (by simp; omega)).trans k1
              have HLW : Hid (∀ y : Later B2 W, Below w.heap.size w y.W) := fun y => hb0W.trans (y.h.mono (Nat.le_trans hb0W.size hC2))
              clear k0 k1
              have hicap : i ≤ cap := by omega
              have hjcap : j ≤ cap := by omega
              have HM : Hid ((ofL (h.take i) t).length = nthAt h i ∧ (ofL (h.take j) t2).length = nthAt h j) := by
                constructor
                · unfold nthAt; rw [HP.out.1]
                · unfold nthAt; rw [HP.out.2]
              obtain ⟨m1, hm1⟩ : ∃ m, nthAt h i = m := ⟨_, rfl⟩
              obtain ⟨m2, hm2⟩ : ∃ m, nthAt h j = m := ⟨_, rfl⟩
              rw [hm1, hm2] at HM
              have hm1b : m1 ≤ 40 := by rw [← HM.out.1]; have h1 := List.length_filter_le (fun o : Op3 => o.1 == t) (h.take i); have h2 : (h.take i).length ≤ i := List.length_take_le _ _; unfold ofL; omega
              have hm2b : m2 ≤ 40 := by rw [← HM.out.2]; have h1 := List.length_filter_le (fun o : Op3 => o.1 == t2) (h.take j); have h2 : (h.take j).length ≤ j := List.length_take_le _ _; unfold ofL; omega
              obtain ⟨p1, hp1⟩ : ∃ p, placeI g t m1 = p := ⟨_, rfl⟩
              obtain ⟨p2, hp2⟩ : ∃ p, placeI g t2 m2 = p := ⟨_, rfl⟩
              have HPL1 : Hid (∀ y : Later B2 W, Calls Tryd.prog 55 #[u, .int .i64 t, .int .i64 m1] y.W fun e w' => e = .returned (.int .i64 p1) ∧ ∃ z : Later B2 W, w' = z.W) := fun y => hp1 ▸ Later.at y hC1 ((place_any g u t m1 y.W (HIJ.out y.W (HLW.out y)).2 hl2 hm1b).mono fun _ _ ⟨he, hw⟩ => ⟨he, by rw [hw]; exact Below.refl _ _⟩)
              have HPL2 : Hid (∀ y : Later B2 W, Calls Tryd.prog 55 #[u, .int .i64 t2, .int .i64 m2] y.W fun e w' => e = .returned (.int .i64 p2) ∧ ∃ z : Later B2 W, w' = z.W) := fun y => hp2 ▸ Later.at y hC1 ((place_any g u t2 m2 y.W (HIJ.out y.W (HLW.out y)).2 hl2 hm2b).mono fun _ _ ⟨he, hw⟩ => ⟨he, by rw [hw]; exact Below.refl _ _⟩)
              have HOUT : Hid (outB h g ((i : Int), (j : Int)) = decide (p2 < p1)) := by
                show outB h g ((i : Int), (j : Int)) = decide (p2 < p1)
                unfold outB
                simp only [Int.toNat_natCast, HP.out.1, HP.out.2, hm1, hm2, hp1, hp2]
              clear hm1 hm2 hp1 hp2
              by_cases hgt : p2 < p1
              · have HR : Hid (alikeB h g = false) := by
                  show alikeB h g = false
                  rw [HEQ.out, any_hit (e := ((i : Int), (j : Int))) (mem_pairs.2 ⟨i, j, hij, hjl, HQ.out, rfl⟩) (by rw [HOUT.out]; simpa using hgt)]; rfl
                go_wp2_with fail
                refine region_mix B2 38 (by kernel_rfl) rfl ?_
                refine mix_take 0 _ rfl (by kernel_rfl) (by kernel_rfl) (by kernel_rfl) (by kernel_rfl) (fun K hK => ?_)
                simp only [List.getElem_toArray, List.getElem_cons_zero]
                go_big_quiet_op
                refine hK _ ?_
                clear hK K
                refine mix_take 1 _ rfl (by kernel_rfl) (by kernel_rfl) (by kernel_rfl) (by kernel_rfl) (fun K hK => ?_)
                simp only [List.getElem_toArray, List.getElem_cons_zero, List.getElem_cons_succ]
                go_big_quiet_op
                refine hK _ ?_
                clear hK K
                refine mix_take 2 _ rfl (by kernel_rfl) (by kernel_rfl) (by kernel_rfl) (by kernel_rfl) (fun K hK => ?_)
                simp only [List.getElem_toArray, List.getElem_cons_zero, List.getElem_cons_succ]
                go_big_quiet_op
                refine hK _ ?_
                clear hK K
                refine mix_take 3 _ rfl (by kernel_rfl) (by kernel_rfl) (by kernel_rfl) (by kernel_rfl) (fun K hK => ?_)
                simp only [List.getElem_toArray, List.getElem_cons_zero, List.getElem_cons_succ]
                go_big_quiet_op
                refine hK _ ?_
                clear hK K
                refine mix_take 4 _ rfl (by kernel_rfl) (by kernel_rfl) (by kernel_rfl) (by kernel_rfl) (fun K hK => ?_)
                simp only [List.getElem_toArray, List.getElem_cons_zero, List.getElem_cons_succ]
                go_big_quiet_op
                refine hK _ ?_
                clear hK K
                refine mix_take 5 _ rfl (by kernel_rfl) (by kernel_rfl) (by kernel_rfl) (by kernel_rfl) (fun K hK => ?_)
                simp only [List.getElem_toArray, List.getElem_cons_zero, List.getElem_cons_succ]
                go_big_quiet_op
                refine hK _ ?_
                clear hK K
                refine mix_take 6 _ rfl (by kernel_rfl) (by kernel_rfl) (by kernel_rfl) (by kernel_rfl) (fun K hK => ?_)
                simp only [List.getElem_toArray, List.getElem_cons_zero, List.getElem_cons_succ]
                go_big_quiet_op
                refine hK _ ?_
                clear hK K
                refine mix_take 7 _ rfl (by kernel_rfl) (by kernel_rfl) (by kernel_rfl) (by kernel_rfl) (fun K hK => ?_)
                simp only [List.getElem_toArray, List.getElem_cons_zero, List.getElem_cons_succ]
                go_big_quiet_op
                refine hK _ ?_
                clear hK K
                refine mix_take 8 _ rfl (by kernel_rfl) (by kernel_rfl) (by kernel_rfl) (by kernel_rfl) (fun K hK => ?_)
                simp only [List.getElem_toArray, List.getElem_cons_zero, List.getElem_cons_succ]
                go_big_quiet_op
                refine hK _ ?_
                clear hK K
                refine mix_take 9 _ rfl (by kernel_rfl) (by kernel_rfl) (by kernel_rfl) (by kernel_rfl) (fun K hK => ?_)
                simp only [List.getElem_toArray, List.getElem_cons_zero, List.getElem_cons_succ]
                go_big_quiet_op
                refine hK _ ?_
                clear hK K
                refine mix_take 10 _ rfl (by kernel_rfl) (by kernel_rfl) (by kernel_rfl) (by kernel_rfl) (fun K hK => ?_)
                simp only [List.getElem_toArray, List.getElem_cons_zero, List.getElem_cons_succ]
                go_big_quiet_op
                refine hK _ ?_
                clear hK K
                refine mix_take 11 _ rfl (by kernel_rfl) (by kernel_rfl) (by kernel_rfl) (by kernel_rfl) (fun K hK => ?_)
                simp only [List.getElem_toArray, List.getElem_cons_zero, List.getElem_cons_succ]
                go_big_quiet_op
                refine hK _ ?_
                clear hK K
                refine mix_take 12 _ rfl (by kernel_rfl) (by kernel_rfl) (by kernel_rfl) (by kernel_rfl) (fun K hK => ?_)
                simp only [List.getElem_toArray, List.getElem_cons_zero, List.getElem_cons_succ]
                go_big_quiet_op
                refine hK _ ?_
                clear hK K
                refine mix_take 13 _ rfl (by kernel_rfl) (by kernel_rfl) (by kernel_rfl) (by kernel_rfl) (fun K hK => ?_)
                simp only [List.getElem_toArray, List.getElem_cons_zero, List.getElem_cons_succ]
                go_big_quiet_op
                refine hK _ ?_
                clear hK K
                refine mix_take 14 _ rfl (by kernel_rfl) (by kernel_rfl) (by kernel_rfl) (by kernel_rfl) (fun K hK => ?_)
                simp only [List.getElem_toArray, List.getElem_cons_zero, List.getElem_cons_succ]
                go_big_quiet_op
                refine hK _ ?_
                clear hK K
                refine mix_take 15 _ rfl (by kernel_rfl) (by kernel_rfl) (by kernel_rfl) (by kernel_rfl) (fun K hK => ?_)
                simp only [List.getElem_toArray, List.getElem_cons_zero, List.getElem_cons_succ]
                go_big_quiet_op
                refine hK _ ?_
                clear hK K
                refine mix_take 19 _ rfl (by kernel_rfl) (by kernel_rfl) (by kernel_rfl) (by kernel_rfl) (fun K hK => ?_)
                simp only [List.getElem_toArray, List.getElem_cons_zero, List.getElem_cons_succ]
                go_big_quiet_op
                refine hK _ ?_
                clear hK K
                refine mix_take 20 _ rfl (by kernel_rfl) (by kernel_rfl) (by kernel_rfl) (by kernel_rfl) (fun K hK => ?_)
                simp only [List.getElem_toArray, List.getElem_cons_zero, List.getElem_cons_succ]
                go_big_quiet_op
                refine hK _ ?_
                clear hK K
                refine mix_take 21 _ rfl (by kernel_rfl) (by kernel_rfl) (by kernel_rfl) (by kernel_rfl) (fun K hK => ?_)
                simp only [List.getElem_toArray, List.getElem_cons_zero, List.getElem_cons_succ]
                go_big_quiet_op
                refine hK _ ?_
                clear hK K
                refine mix_take 22 _ rfl (by kernel_rfl) (by kernel_rfl) (by kernel_rfl) (by kernel_rfl) (fun K hK => ?_)
                simp only [List.getElem_toArray, List.getElem_cons_zero, List.getElem_cons_succ]
                go_big_quiet_op
                refine hK _ ?_
                clear hK K
                refine mix_take 23 _ rfl (by kernel_rfl) (by kernel_rfl) (by kernel_rfl) (by kernel_rfl) (fun K hK => ?_)
                simp only [List.getElem_toArray, List.getElem_cons_zero, List.getElem_cons_succ]
                go_big_quiet_op
                refine hK _ ?_
                clear hK K
                refine mix_take 24 _ rfl (by kernel_rfl) (by kernel_rfl) (by kernel_rfl) (by kernel_rfl) (fun K hK => ?_)
                simp only [List.getElem_toArray, List.getElem_cons_zero, List.getElem_cons_succ]
                go_big_quiet_op
                refine hK _ ?_
                clear hK K
                refine mix_take 25 _ rfl (by kernel_rfl) (by kernel_rfl) (by kernel_rfl) (by kernel_rfl) (fun K hK => ?_)
                simp only [List.getElem_toArray, List.getElem_cons_zero, List.getElem_cons_succ]
                go_big_quiet_op
                refine hK _ ?_
                clear hK K
                refine mix_take 26 _ rfl (by kernel_rfl) (by kernel_rfl) (by kernel_rfl) (by kernel_rfl) (fun K hK => ?_)
                simp only [List.getElem_toArray, List.getElem_cons_zero, List.getElem_cons_succ]
                go_big_quiet_op
                refine hK _ ?_
                clear hK K
                refine mix_take 27 _ rfl (by kernel_rfl) (by kernel_rfl) (by kernel_rfl) (by kernel_rfl) (fun K hK => ?_)
                simp only [List.getElem_toArray, List.getElem_cons_zero, List.getElem_cons_succ]
                go_big_quiet_op
                refine hK _ ?_
                clear hK K
                refine mix_take 28 _ rfl (by kernel_rfl) (by kernel_rfl) (by kernel_rfl) (by kernel_rfl) (fun K hK => ?_)
                simp only [List.getElem_toArray, List.getElem_cons_zero, List.getElem_cons_succ]
                go_big_quiet_op
                refine hK _ ?_
                clear hK K
                refine mix_take 29 _ rfl (by kernel_rfl) (by kernel_rfl) (by kernel_rfl) (by kernel_rfl) (fun K hK => ?_)
                simp only [List.getElem_toArray, List.getElem_cons_zero, List.getElem_cons_succ]
                go_big_quiet_op
                refine hK _ ?_
                clear hK K
                refine mix_take 30 _ rfl (by kernel_rfl) (by kernel_rfl) (by kernel_rfl) (by kernel_rfl) (fun K hK => ?_)
                simp only [List.getElem_toArray, List.getElem_cons_zero, List.getElem_cons_succ]
                go_big_quiet_op
                refine hK _ ?_
                clear hK K
                refine mix_take 31 _ rfl (by kernel_rfl) (by kernel_rfl) (by kernel_rfl) (by kernel_rfl) (fun K hK => ?_)
                simp only [List.getElem_toArray, List.getElem_cons_zero, List.getElem_cons_succ]
                go_big_quiet_op
                refine hK _ ?_
                clear hK K
                refine mix_take 32 _ rfl (by kernel_rfl) (by kernel_rfl) (by kernel_rfl) (by kernel_rfl) (fun K hK => ?_)
                simp only [List.getElem_toArray, List.getElem_cons_zero, List.getElem_cons_succ]
                go_big_quiet_op
                refine hK _ ?_
                clear hK K
                refine mix_one 16 (by kernel_rfl) ?_
                refine lOp_call rfl (by kernel_rfl) 20 #[.slice (some ⟨b, off, none⟩) i cap, .int .i64 t] (fun _ => by kernel_rfl) (fun Wx hWx => ?_)
                obtain ⟨y, rfl⟩ := hWx
                refine (refOf_any (h.take i) (.slice (some ⟨b, off, none⟩) i cap) t y.W (HPRE.out y.W (HLW.out y) i (by omega) (by omega)) (by rw [List.length_take]; omega)).mono ?_
                rintro e Wz ⟨vz, rfl, hIz, hbz⟩
                obtain ⟨az, bz, oz, cz, rfl, _⟩ := hIz
                rw [show ((h.take i).filter (fun o : Op3 => o.1 == t)).length = m1 from HM.out.1]
                refine ⟨_, rfl, ⟨⟨Wz, y.h.trans (hbz.mono (Nat.le_trans hC1 y.h.size))⟩, rfl⟩, ?_⟩
                clear hbz
                simp only [List.getElem_toArray, List.getElem_cons_zero, List.getElem_cons_succ, Act.put, List.setIfInBounds_toArray, List.set_cons_succ, List.set_cons_zero]
                refine mix_take 17 _ rfl (by kernel_rfl) (by kernel_rfl) (by kernel_rfl) (by kernel_rfl) (fun K hK => ?_)
                simp only [List.getElem_toArray, List.getElem_cons_zero, List.getElem_cons_succ]
                go_big_quiet_op
                refine hK _ ?_
                clear hK K
                refine mix_take 18 _ rfl (by kernel_rfl) (by kernel_rfl) (by kernel_rfl) (by kernel_rfl) (fun K hK => ?_)
                simp only [List.getElem_toArray, List.getElem_cons_zero, List.getElem_cons_succ]
                go_big_quiet_op
                refine ⟨_, fun y => HPL1.out y, hK _ ?_⟩
                clear hK K
                refine mix_one 33 (by kernel_rfl) ?_
                refine lOp_call rfl (by kernel_rfl) 20 #[.slice (some ⟨b, off, none⟩) j cap, .int .i64 t2] (fun _ => by kernel_rfl) (fun Wx hWx => ?_)
                obtain ⟨y, rfl⟩ := hWx
                refine (refOf_any (h.take j) (.slice (some ⟨b, off, none⟩) j cap) t2 y.W (HPRE.out y.W (HLW.out y) j (by omega) (by omega)) (by rw [List.length_take]; omega)).mono ?_
                rintro e Wz ⟨vz, rfl, hIz, hbz⟩
                obtain ⟨az, bz, oz, cz, rfl, _⟩ := hIz
                rw [show ((h.take j).filter (fun o : Op3 => o.1 == t2)).length = m2 from HM.out.2]
                refine ⟨_, rfl, ⟨⟨Wz, y.h.trans (hbz.mono (Nat.le_trans hC1 y.h.size))⟩, rfl⟩, ?_⟩
                clear hbz
                simp only [List.getElem_toArray, List.getElem_cons_zero, List.getElem_cons_succ, Act.put, List.setIfInBounds_toArray, List.set_cons_succ, List.set_cons_zero]
                refine mix_take 34 _ rfl (by kernel_rfl) (by kernel_rfl) (by kernel_rfl) (by kernel_rfl) (fun K hK => ?_)
                simp only [List.getElem_toArray, List.getElem_cons_zero, List.getElem_cons_succ]
                go_big_quiet_op
                refine hK _ ?_
                clear hK K
                refine mix_take 35 _ rfl (by kernel_rfl) (by kernel_rfl) (by kernel_rfl) (by kernel_rfl) (fun K hK => ?_)
                simp only [List.getElem_toArray, List.getElem_cons_zero, List.getElem_cons_succ]
                go_big_quiet_op
                refine ⟨_, fun y => HPL2.out y, hK _ ?_⟩
                clear hK K
                refine mix_take 36 _ rfl (by kernel_rfl) (by kernel_rfl) (by kernel_rfl) (by kernel_rfl) (fun K hK => ?_)
                simp only [List.getElem_toArray, List.getElem_cons_zero, List.getElem_cons_succ]
                go_big_quiet_op
                refine hK _ ?_
                clear hK K
                refine mix_take 37 _ rfl (by kernel_rfl) (by kernel_rfl) (by kernel_rfl) (by kernel_rfl) (fun K hK => ?_)
                simp only [List.getElem_toArray, List.getElem_cons_zero, List.getElem_cons_succ]
                go_big_quiet_op
                refine hK _ ?_
                clear hK K
                refine mix_done (by kernel_rfl) ?_ _
                intro Wq hWq
                obtain ⟨z, rfl⟩ := hWq
                go_wp2
                go_ret
                exact ⟨by rw [HR.out]; rfl, HLW.out z⟩
              · have hgt' : decide (p2 < p1) = false := by simpa using hgt
                have HNX : Hid ((accTo h i (j + 1)).any (outB h g) = false) := by
                  show (accTo h i (j + 1)).any (outB h g) = false
                  rw [accTo_hit hij HQ.out, List.any_append, HNO.out]; simp only [List.any_cons, List.any_nil, HOUT.out, hgt']; rfl
                clear hgt
                go_wp2_with fail
                refine region_mix B2 38 (by kernel_rfl) rfl ?_
                refine mix_take 0 _ rfl (by kernel_rfl) (by kernel_rfl) (by kernel_rfl) (by kernel_rfl) (fun K hK => ?_)
                simp only [List.getElem_toArray, List.getElem_cons_zero]
                go_big_quiet_op
                refine hK _ ?_
                clear hK K
                refine mix_take 1 _ rfl (by kernel_rfl) (by kernel_rfl) (by kernel_rfl) (by kernel_rfl) (fun K hK => ?_)
                simp only [List.getElem_toArray, List.getElem_cons_zero, List.getElem_cons_succ]
                go_big_quiet_op
                refine hK _ ?_
                clear hK K
                refine mix_take 2 _ rfl (by kernel_rfl) (by kernel_rfl) (by kernel_rfl) (by kernel_rfl) (fun K hK => ?_)
                simp only [List.getElem_toArray, List.getElem_cons_zero, List.getElem_cons_succ]
                go_big_quiet_op
                refine hK _ ?_
                clear hK K
                refine mix_take 3 _ rfl (by kernel_rfl) (by kernel_rfl) (by kernel_rfl) (by kernel_rfl) (fun K hK => ?_)
                simp only [List.getElem_toArray, List.getElem_cons_zero, List.getElem_cons_succ]
                go_big_quiet_op
                refine hK _ ?_
                clear hK K
                refine mix_take 4 _ rfl (by kernel_rfl) (by kernel_rfl) (by kernel_rfl) (by kernel_rfl) (fun K hK => ?_)
                simp only [List.getElem_toArray, List.getElem_cons_zero, List.getElem_cons_succ]
                go_big_quiet_op
                refine hK _ ?_
                clear hK K
                refine mix_take 5 _ rfl (by kernel_rfl) (by kernel_rfl) (by kernel_rfl) (by kernel_rfl) (fun K hK => ?_)
                simp only [List.getElem_toArray, List.getElem_cons_zero, List.getElem_cons_succ]
                go_big_quiet_op
                refine hK _ ?_
                clear hK K
                refine mix_take 6 _ rfl (by kernel_rfl) (by kernel_rfl) (by kernel_rfl) (by kernel_rfl) (fun K hK => ?_)
                simp only [List.getElem_toArray, List.getElem_cons_zero, List.getElem_cons_succ]
                go_big_quiet_op
                refine hK _ ?_
                clear hK K
                refine mix_take 7 _ rfl (by kernel_rfl) (by kernel_rfl) (by kernel_rfl) (by kernel_rfl) (fun K hK => ?_)
                simp only [List.getElem_toArray, List.getElem_cons_zero, List.getElem_cons_succ]
                go_big_quiet_op
                refine hK _ ?_
                clear hK K
                refine mix_take 8 _ rfl (by kernel_rfl) (by kernel_rfl) (by kernel_rfl) (by kernel_rfl) (fun K hK => ?_)
                simp only [List.getElem_toArray, List.getElem_cons_zero, List.getElem_cons_succ]
                go_big_quiet_op
                refine hK _ ?_
                clear hK K
                refine mix_take 9 _ rfl (by kernel_rfl) (by kernel_rfl) (by kernel_rfl) (by kernel_rfl) (fun K hK => ?_)
                simp only [List.getElem_toArray, List.getElem_cons_zero, List.getElem_cons_succ]
                go_big_quiet_op
                refine hK _ ?_
                clear hK K
                refine mix_take 10 _ rfl (by kernel_rfl) (by kernel_rfl) (by kernel_rfl) (by kernel_rfl) (fun K hK => ?_)
                simp only [List.getElem_toArray, List.getElem_cons_zero, List.getElem_cons_succ]
                go_big_quiet_op
                refine hK _ ?_
                clear hK K
                refine mix_take 11 _ rfl (by kernel_rfl) (by kernel_rfl) (by kernel_rfl) (by kernel_rfl) (fun K hK => ?_)
                simp only [List.getElem_toArray, List.getElem_cons_zero, List.getElem_cons_succ]
                go_big_quiet_op
                refine hK _ ?_
                clear hK K
                refine mix_take 12 _ rfl (by kernel_rfl) (by kernel_rfl) (by kernel_rfl) (by kernel_rfl) (fun K hK => ?_)
                simp only [List.getElem_toArray, List.getElem_cons_zero, List.getElem_cons_succ]
                go_big_quiet_op
                refine hK _ ?_
                clear hK K
                refine mix_take 13 _ rfl (by kernel_rfl) (by kernel_rfl) (by kernel_rfl) (by kernel_rfl) (fun K hK => ?_)
                simp only [List.getElem_toArray, List.getElem_cons_zero, List.getElem_cons_succ]
                go_big_quiet_op
                refine hK _ ?_
                clear hK K
                refine mix_take 14 _ rfl (by kernel_rfl) (by kernel_rfl) (by kernel_rfl) (by kernel_rfl) (fun K hK => ?_)
                simp only [List.getElem_toArray, List.getElem_cons_zero, List.getElem_cons_succ]
                go_big_quiet_op
                refine hK _ ?_
                clear hK K
                refine mix_take 15 _ rfl (by kernel_rfl) (by kernel_rfl) (by kernel_rfl) (by kernel_rfl) (fun K hK => ?_)
                simp only [List.getElem_toArray, List.getElem_cons_zero, List.getElem_cons_succ]
                go_big_quiet_op
                refine hK _ ?_
                clear hK K
                refine mix_take 19 _ rfl (by kernel_rfl) (by kernel_rfl) (by kernel_rfl) (by kernel_rfl) (fun K hK => ?_)
                simp only [List.getElem_toArray, List.getElem_cons_zero, List.getElem_cons_succ]
                go_big_quiet_op
                refine hK _ ?_
                clear hK K
                refine mix_take 20 _ rfl (by kernel_rfl) (by kernel_rfl) (by kernel_rfl) (by kernel_rfl) (fun K hK => ?_)
                simp only [List.getElem_toArray, List.getElem_cons_zero, List.getElem_cons_succ]
                go_big_quiet_op
                refine hK _ ?_
                clear hK K
                refine mix_take 21 _ rfl (by kernel_rfl) (by kernel_rfl) (by kernel_rfl) (by kernel_rfl) (fun K hK => ?_)
                simp only [List.getElem_toArray, List.getElem_cons_zero, List.getElem_cons_succ]
                go_big_quiet_op
                refine hK _ ?_
                clear hK K
                refine mix_take 22 _ rfl (by kernel_rfl) (by kernel_rfl) (by kernel_rfl) (by kernel_rfl) (fun K hK => ?_)
                simp only [List.getElem_toArray, List.getElem_cons_zero, List.getElem_cons_succ]
                go_big_quiet_op
                refine hK _ ?_
                clear hK K
                refine mix_take 23 _ rfl (by kernel_rfl) (by kernel_rfl) (by kernel_rfl) (by kernel_rfl) (fun K hK => ?_)
                simp only [List.getElem_toArray, List.getElem_cons_zero, List.getElem_cons_succ]
                go_big_quiet_op
                refine hK _ ?_
                clear hK K
                refine mix_take 24 _ rfl (by kernel_rfl) (by kernel_rfl) (by kernel_rfl) (by kernel_rfl) (fun K hK => ?_)
                simp only [List.getElem_toArray, List.getElem_cons_zero, List.getElem_cons_succ]
                go_big_quiet_op
                refine hK _ ?_
                clear hK K
                refine mix_take 25 _ rfl (by kernel_rfl) (by kernel_rfl) (by kernel_rfl) (by kernel_rfl) (fun K hK => ?_)
                simp only [List.getElem_toArray, List.getElem_cons_zero, List.getElem_cons_succ]
                go_big_quiet_op
                refine hK _ ?_
                clear hK K
                refine mix_take 26 _ rfl (by kernel_rfl) (by kernel_rfl) (by kernel_rfl) (by kernel_rfl) (fun K hK => ?_)
                simp only [List.getElem_toArray, List.getElem_cons_zero, List.getElem_cons_succ]
                go_big_quiet_op
                refine hK _ ?_
                clear hK K
                refine mix_take 27 _ rfl (by kernel_rfl) (by kernel_rfl) (by kernel_rfl) (by kernel_rfl) (fun K hK => ?_)
                simp only [List.getElem_toArray, List.getElem_cons_zero, List.getElem_cons_succ]
                go_big_quiet_op
                refine hK _ ?_
                clear hK K
                refine mix_take 28 _ rfl (by kernel_rfl) (by kernel_rfl) (by kernel_rfl) (by kernel_rfl) (fun K hK => ?_)
                simp only [List.getElem_toArray, List.getElem_cons_zero, List.getElem_cons_succ]
                go_big_quiet_op
                refine hK _ ?_
                clear hK K
                refine mix_take 29 _ rfl (by kernel_rfl) (by kernel_rfl) (by kernel_rfl) (by kernel_rfl) (fun K hK => ?_)
                simp only [List.getElem_toArray, List.getElem_cons_zero, List.getElem_cons_succ]
                go_big_quiet_op
                refine hK _ ?_
                clear hK K
                refine mix_take 30 _ rfl (by kernel_rfl) (by kernel_rfl) (by kernel_rfl) (by kernel_rfl) (fun K hK => ?_)
                simp only [List.getElem_toArray, List.getElem_cons_zero, List.getElem_cons_succ]
                go_big_quiet_op
                refine hK _ ?_
                clear hK K
                refine mix_take 31 _ rfl (by kernel_rfl) (by kernel_rfl) (by kernel_rfl) (by kernel_rfl) (fun K hK => ?_)
                simp only [List.getElem_toArray, List.getElem_cons_zero, List.getElem_cons_succ]
                go_big_quiet_op
                refine hK _ ?_
                clear hK K
                refine mix_take 32 _ rfl (by kernel_rfl) (by kernel_rfl) (by kernel_rfl) (by kernel_rfl) (fun K hK => ?_)
                simp only [List.getElem_toArray, List.getElem_cons_zero, List.getElem_cons_succ]
                go_big_quiet_op
                refine hK _ ?_
                clear hK K
                refine mix_one 16 (by kernel_rfl) ?_
                refine lOp_call rfl (by kernel_rfl) 20 #[.slice (some ⟨b, off, none⟩) i cap, .int .i64 t] (fun _ => by kernel_rfl) (fun Wx hWx => ?_)
                obtain ⟨y, rfl⟩ := hWx
                refine (refOf_any (h.take i) (.slice (some ⟨b, off, none⟩) i cap) t y.W (HPRE.out y.W (HLW.out y) i (by omega) (by omega)) (by rw [List.length_take]; omega)).mono ?_
                rintro e Wz ⟨vz, rfl, hIz, hbz⟩
                obtain ⟨az, bz, oz, cz, rfl, _⟩ := hIz
                rw [show ((h.take i).filter (fun o : Op3 => o.1 == t)).length = m1 from HM.out.1]
                refine ⟨_, rfl, ⟨⟨Wz, y.h.trans (hbz.mono (Nat.le_trans hC1 y.h.size))⟩, rfl⟩, ?_⟩
                clear hbz
                simp only [List.getElem_toArray, List.getElem_cons_zero, List.getElem_cons_succ, Act.put, List.setIfInBounds_toArray, List.set_cons_succ, List.set_cons_zero]
                refine mix_take 17 _ rfl (by kernel_rfl) (by kernel_rfl) (by kernel_rfl) (by kernel_rfl) (fun K hK => ?_)
                simp only [List.getElem_toArray, List.getElem_cons_zero, List.getElem_cons_succ]
                go_big_quiet_op
                refine hK _ ?_
                clear hK K
                refine mix_take 18 _ rfl (by kernel_rfl) (by kernel_rfl) (by kernel_rfl) (by kernel_rfl) (fun K hK => ?_)
                simp only [List.getElem_toArray, List.getElem_cons_zero, List.getElem_cons_succ]
                go_big_quiet_op
                refine ⟨_, fun y => HPL1.out y, hK _ ?_⟩
                clear hK K
                refine mix_one 33 (by kernel_rfl) ?_
                refine lOp_call rfl (by kernel_rfl) 20 #[.slice (some ⟨b, off, none⟩) j cap, .int .i64 t2] (fun _ => by kernel_rfl) (fun Wx hWx => ?_)
                obtain ⟨y, rfl⟩ := hWx
                refine (refOf_any (h.take j) (.slice (some ⟨b, off, none⟩) j cap) t2 y.W (HPRE.out y.W (HLW.out y) j (by omega) (by omega)) (by rw [List.length_take]; omega)).mono ?_
                rintro e Wz ⟨vz, rfl, hIz, hbz⟩
                obtain ⟨az, bz, oz, cz, rfl, _⟩ := hIz
                rw [show ((h.take j).filter (fun o : Op3 => o.1 == t2)).length = m2 from HM.out.2]
                refine ⟨_, rfl, ⟨⟨Wz, y.h.trans (hbz.mono (Nat.le_trans hC1 y.h.size))⟩, rfl⟩, ?_⟩
                clear hbz
                simp only [List.getElem_toArray, List.getElem_cons_zero, List.getElem_cons_succ, Act.put, List.setIfInBounds_toArray, List.set_cons_succ, List.set_cons_zero]
                refine mix_take 34 _ rfl (by kernel_rfl) (by kernel_rfl) (by kernel_rfl) (by kernel_rfl) (fun K hK => ?_)
                simp only [List.getElem_toArray, List.getElem_cons_zero, List.getElem_cons_succ]
                go_big_quiet_op
                refine hK _ ?_
                clear hK K
                refine mix_take 35 _ rfl (by kernel_rfl) (by kernel_rfl) (by kernel_rfl) (by kernel_rfl) (fun K hK => ?_)
                simp only [List.getElem_toArray, List.getElem_cons_zero, List.getElem_cons_succ]
                go_big_quiet_op
                refine ⟨_, fun y => HPL2.out y, hK _ ?_⟩
                clear hK K
                refine mix_take 36 _ rfl (by kernel_rfl) (by kernel_rfl) (by kernel_rfl) (by kernel_rfl) (fun K hK => ?_)
                simp only [List.getElem_toArray, List.getElem_cons_zero, List.getElem_cons_succ]
                go_big_quiet_op
                refine hK _ ?_
                clear hK K
                refine mix_take 37 _ rfl (by kernel_rfl) (by kernel_rfl) (by kernel_rfl) (by kernel_rfl) (fun K hK => ?_)
                simp only [List.getElem_toArray, List.getElem_cons_zero, List.getElem_cons_succ]
                go_big_quiet_op
                refine hK _ ?_
                clear hK K
                refine mix_done (by kernel_rfl) ?_ _
                intro Wq hWq
                obtain ⟨z, rfl⟩ := hWq
                go_wp2
                go_roundw
                case rel => exact ⟨j + 1, by omega, by omega, by go_num, HNX.out, HLW.out z⟩
                case measure => simp [intOf]; omega
          · have HJ : Hid (j = h.length) := by show j = h.length; omega
            go_wp2
            go_roundw
            case rel => exact ⟨i + 1, by omega, by go_num, by rw [← accTo_last h i j HJ.out]; exact HNO.out, hbel⟩
            case measure => simp [intOf]; omega
      · have HR : Hid (alikeB h g = true) := by
          show alikeB h g = true
          rw [HEQ.out, show pairsL h = pairsTo h i by unfold pairsL; rw [show i = h.length by omega], HNO.out]; rfl
        go_wp2
        go_ret
        exact ⟨by rw [HR.out]; rfl, hbel⟩
end Go.Proofs.YtjaeaanpbdmfgaaDoor
