/-
  PROVED HERE: the five closures of faces.Of, in whatever world holds the list and the row of ends: whether a Read read from nobody or from its own deal; whether its deal commits ahead of the one it read from; whether that one had not committed by then; whether the first of a pair has not ended by the second; and that besides it is a Write. Old memory stays as it was.
  Conditions: the places lie in the list, its ops are ops.
-/
import Derived.Test.YtjcaekhkeobhpahDoorFacesSrc
namespace Go.Proofs.YtjcaekhkeobhpahDoor
open Go.RowKit

theorem op_cells {W : World} {v : Value} {l : List Op3} (h : IsOps W v l) {i : Nat} (hi : i < l.length) {t a x : Int} (ho : opAt l i = (t, a, x)) : ∃ b off cap, v = .slice (some ⟨b, off, none⟩) l.length cap ∧ b < W.heap.size ∧ W.cell? ⟨b, off + i * 3, none⟩ = some (.int .i64 t) ∧ W.cell? ⟨b, off + i * 3 + 1, none⟩ = some (.int .i64 a) := by
  obtain ⟨ad, b, off, cap, hv, had, -, hbB, hops⟩ := h
  have := hops i hi
  rw [show l.getD i (0, 0, 0) = (t, a, x) from ho] at this
  rw [had (by omega)] at hv
  have hb : b < W.heap.size := by
    rcases hbB with h | h
    · exact h
    · subst h; simp at hi
  exact ⟨b, off, cap, hv, hb, this.1, this.2.1⟩
theorem pair_box (w : World) (t a : Int) (T : TypeId) : (w.alloc (.cells #[.int .i64 t, .int .i64 a] T)).cell? ⟨w.heap.size, 0, none⟩ = some (.int .i64 t) ∧ (w.alloc (.cells #[.int .i64 t, .int .i64 a] T)).cell? ⟨w.heap.size, 1, none⟩ = some (.int .i64 a) := by simp
set_option maxHeartbeats 4000000 in
theorem own_fn (l : List Op3) (i : Nat) (x : Int) (v : Value) (B1 : Nat) (w : World) (hI : IsOps w v l) (hi : i < l.length) (hc : w.cell? ⟨B1, 0, none⟩ = some v) :
    Calls Tryd.prog 27 #[.agg #[.int .i64 i, .int .i64 x], .pointer (some ⟨B1, 0, none⟩)] w fun e w' => e = .returned (.bool (ownB l ((i : Int), x))) ∧ Below w.heap.size w w' := by
  obtain ⟨⟨t, a, y⟩, ho⟩ : ∃ o : Op3, opAt l i = o := ⟨_, rfl⟩
  obtain ⟨b, off, cap, rfl, hb, c0, -⟩ := op_cells hI hi ho
  have HE : Hid (ownB l ((i : Int), x) = (x == 0 || x == t)) := by show ownB l ((i : Int), x) = _; unfold ownB; simp only [Int.toNat_natCast, ho]
  have bB := World.block_lt_of_cell? w _ hc
  simp only at bB
  clear hI ho
  go_enter Tryd.func27, Tryd.ntmps27
  go_upto_region 1 with (fail)
  obtain ⟨W, hW⟩ : ∃ W, W = w.alloc (.cells #[.int .i64 i, .int .i64 x] 69) := ⟨_, rfl⟩
  rw [← hW]
  obtain ⟨P, hP⟩ : ∃ P, P = w.heap.size := ⟨_, rfl⟩
  have p0 : W.cell? ⟨P, 0, none⟩ = some (.int .i64 i) := by rw [hW, hP]; exact (pair_box w _ _ _).1
  have p1 : W.cell? ⟨P, 1, none⟩ = some (.int .i64 x) := by rw [hW, hP]; exact (pair_box w _ _ _).2
  have hbw : Below w.heap.size w W := by rw [hW]; exact (Below.refl _ w).alloc (Nat.le_refl _) _
  have k0 := (hbw.cell (p := ⟨B1, 0, none⟩) bB).trans hc
  have k1 := (hbw.cell (p := ⟨b, off + i * 3, none⟩) hb).trans c0
  have HB : Hid (∀ n, Below w.heap.size w (W.drewN n)) := fun n => below_drewN hbw n
  have hi' : (i : Int) < (l.length : Int) := by omega
  rw [← hP]
  clear hW hbw hc c0 hb bB hP
  by_cases hx : x = 0
  · subst hx
    go_wp2_with fail
    go_quiet (fail)
    go_wp2_with fail
    go_ret
    exact ⟨by rw [HE.out]; rfl, HB.out _⟩
  · have hx' : (x == 0) = false := by simpa using hx
    clear hx
    go_wp2_with fail
    go_quiet (fail)
    go_wp2_with fail
    go_ret
    exact ⟨by rw [HE.out, hx']; simp, HB.out _⟩
set_option maxHeartbeats 4000000 in
theorem early_fn (l : List Op3) (f : Nat → Int × Int) (i : Nat) (x : Int) (v : Value) (B1 B2 : Nat) (w : World) (hI : IsOps w v l) (hop : ∀ o ∈ l, isOpB o = true) (hi : i < l.length) (hx0 : 0 ≤ x) (hx7 : x < 7) (hc : w.cell? ⟨B1, 0, none⟩ = some v) (hE : EndsAt w B2 f) :
    Calls Tryd.prog 28 #[.agg #[.int .i64 i, .int .i64 x], .pointer (some ⟨B2, 0, none⟩), .pointer (some ⟨B1, 0, none⟩)] w fun e w' => e = .returned (.bool (earlyB l f ((i : Int), x))) ∧ Below w.heap.size w w' := by
  obtain ⟨⟨t, a, y⟩, ho⟩ : ∃ o : Op3, opAt l i = o := ⟨_, rfl⟩
  obtain ⟨b, off, cap, rfl, hb, c0, -⟩ := op_cells hI hi ho
  have ht := isOp_tx (hop _ (opAt_mem hi))
  rw [ho] at ht
  obtain ⟨ht1, ht6⟩ := ht
  simp only at ht1 ht6
  obtain ⟨⟨q, p⟩, hf⟩ : ∃ n, f t.toNat = n := ⟨_, rfl⟩
  have HE : Hid (earlyB l f ((i : Int), x) = (q == 3 && !byE f x p 3)) := by show earlyB l f ((i : Int), x) = _; unfold earlyB; simp only [Int.toNat_natCast, ho, hf]
  have HF : Hid (f t.toNat = (q, p)) := hf
  have bB := World.block_lt_of_cell? w _ hc
  simp only at bB
  have HEN : Hid (EndsAt w B2 f) := hE
  have ht0 : 0 ≤ t := by omega
  have ht7 : t < 7 := by omega
  clear hI ho hf hop hE ht1 ht6
  go_enter Tryd.func28, Tryd.ntmps28
  go_upto_region 1 with (fail)
  obtain ⟨W, hW⟩ : ∃ W, W = w.alloc (.cells #[.int .i64 i, .int .i64 x] 69) := ⟨_, rfl⟩
  rw [← hW]
  obtain ⟨P, hP⟩ : ∃ P, P = w.heap.size := ⟨_, rfl⟩
  have p0 : W.cell? ⟨P, 0, none⟩ = some (.int .i64 i) := by rw [hW, hP]; exact (pair_box w _ _ _).1
  have p1 : W.cell? ⟨P, 1, none⟩ = some (.int .i64 x) := by rw [hW, hP]; exact (pair_box w _ _ _).2
  have hbw : Below w.heap.size w W := by rw [hW]; exact (Below.refl _ w).alloc (Nat.le_refl _) _
  have k0 := (hbw.cell (p := ⟨B1, 0, none⟩) bB).trans hc
  have k1 := (hbw.cell (p := ⟨b, off + i * 3, none⟩) hb).trans c0
  have HEW : Hid (EndsAt W B2 f) := HEN.out.below hbw HEN.out.lt
  obtain ⟨d0, d1⟩ := HEW.out.cells (x := t.toNat) (by omega) HF.out
  have hPW : P < W.heap.size := World.block_lt_of_cell? W _ p0
  have HB : Hid (Below w.heap.size w W) := hbw
  have hi' : (i : Int) < (l.length : Int) := by omega
  rw [← hP]
  clear hW hbw hc c0 hb bB hP
  go_upto_region 2 with (fail)
  obtain ⟨V, hV⟩ : ∃ V, V = W.alloc (.cells #[.int .i64 q, .int .i64 p] 62) := ⟨_, rfl⟩
  rw [← hV]
  obtain ⟨R, hR⟩ : ∃ R, R = W.heap.size := ⟨_, rfl⟩
  have q0 : V.cell? ⟨R, 0, none⟩ = some (.int .i64 q) := by rw [hV, hR]; exact (pair_box W _ _ _).1
  have q1 : V.cell? ⟨R, 1, none⟩ = some (.int .i64 p) := by rw [hV, hR]; exact (pair_box W _ _ _).2
  have hbv : Below W.heap.size W V := by rw [hV]; exact (Below.refl _ W).alloc (Nat.le_refl _) _
  have q2 := (hbv.cell (p := ⟨P, 1, none⟩) hPW).trans p1
  have HEV : Hid (EndsAt V B2 f) := HEW.out.below hbv HEW.out.lt
  have HBV : Hid (Below w.heap.size w V) := HB.out.trans (hbv.mono HB.out.size)
  rw [← hR]
  clear hV hbv hR p0 p1 k0 k1 d0 d1 hPW HEW HB
  by_cases hq : q = 3
  · subst hq
    go_wp2_with (refine wpList_load_row1 rfl 64 (.tmp 1) rfl B2 rfl 64 (cells14 f) (0, 0) _ HEV.out Tryd.underlying64 rfl (ends_info' _) ?_)
    refine (committed_any f x p _ hx0 hx7).mono ?_
    rintro e w1 ⟨rfl, hb1⟩
    have HB1 : Hid (Below w.heap.size w w1) := HBV.out.trans (hb1.mono HBV.out.size)
    clear hb1
    go_wp2_with fail
    go_ret
    exact ⟨by rw [HE.out]; rfl, HB1.out⟩
  · have hq' : (q == 3) = false := by simpa using hq
    clear hq
    go_wp2_with fail
    go_ret
    exact ⟨by rw [HE.out, hq']; rfl, HBV.out⟩
set_option maxHeartbeats 4000000 in
theorem dirty_fn (f : Nat → Int × Int) (i : Nat) (x : Int) (B2 : Nat) (w : World) (hx0 : 0 ≤ x) (hx7 : x < 7) (hE : EndsAt w B2 f) :
    Calls Tryd.prog 30 #[.agg #[.int .i64 i, .int .i64 x], .pointer (some ⟨B2, 0, none⟩)] w fun e w' => e = .returned (.bool (dirtyB f ((i : Int), x))) ∧ Below w.heap.size w w' := by
  have HEN : Hid (EndsAt w B2 f) := hE
  clear hE
  go_enter Tryd.func30, Tryd.ntmps30
  go_upto_region 1 with (fail)
  obtain ⟨W, hW⟩ : ∃ W, W = w.alloc (.cells #[.int .i64 i, .int .i64 x] 69) := ⟨_, rfl⟩
  rw [← hW]
  obtain ⟨P, hP⟩ : ∃ P, P = w.heap.size := ⟨_, rfl⟩
  have p0 : W.cell? ⟨P, 0, none⟩ = some (.int .i64 i) := by rw [hW, hP]; exact (pair_box w _ _ _).1
  have p1 : W.cell? ⟨P, 1, none⟩ = some (.int .i64 x) := by rw [hW, hP]; exact (pair_box w _ _ _).2
  have hbw : Below w.heap.size w W := by rw [hW]; exact (Below.refl _ w).alloc (Nat.le_refl _) _
  have HEW : Hid (EndsAt W B2 f) := HEN.out.below hbw HEN.out.lt
  have HB : Hid (Below w.heap.size w W) := hbw
  rw [← hP]
  clear hW hbw hP
  go_wp2_with (refine wpList_load_row rfl 64 (.tmp 1) rfl B2 rfl 64 (cells14 f) (0, 0) _ HEW.out Tryd.underlying64 rfl (ends_info' _) ?_)
  refine (committed_any f x i _ hx0 hx7).mono ?_
  rintro e w1 ⟨rfl, hb1⟩
  have HB1 : Hid (Below w.heap.size w w1) := HB.out.trans (hb1.mono HB.out.size)
  clear hb1
  go_wp2_with fail
  go_ret
  exact ⟨rfl, HB1.out⟩
set_option maxHeartbeats 4000000 in
set_option maxRecDepth 100000 in
theorem open_fn (l : List Op3) (f : Nat → Int × Int) (i j : Nat) (v : Value) (B1 B2 : Nat) (w : World) (hI : IsOps w v l) (hop : ∀ o ∈ l, isOpB o = true) (hi : i < l.length) (hc : w.cell? ⟨B1, 0, none⟩ = some v) (hE : EndsAt w B2 f) :
    Calls Tryd.prog 31 #[.agg #[.int .i64 i, .int .i64 j], .pointer (some ⟨B2, 0, none⟩), .pointer (some ⟨B1, 0, none⟩)] w fun e w' => e = .returned (.bool (openE l f ((i : Int), (j : Int)))) ∧ Below w.heap.size w w' := by
  obtain ⟨⟨t, a, y⟩, ho⟩ : ∃ o : Op3, opAt l i = o := ⟨_, rfl⟩
  obtain ⟨b, off, cap, rfl, hb, c0, -⟩ := op_cells hI hi ho
  have ht := isOp_tx (hop _ (opAt_mem hi))
  rw [ho] at ht
  obtain ⟨ht1, ht6⟩ := ht
  simp only at ht1 ht6
  obtain ⟨r, hr⟩ : ∃ r, (byE f t j 3 || byE f t j 4) = r := ⟨_, rfl⟩
  have HE : Hid (openE l f ((i : Int), (j : Int)) = !r) := by show openE l f ((i : Int), (j : Int)) = _; unfold openE; simp only [Int.toNat_natCast, ho]; rw [hr]
  have bB := World.block_lt_of_cell? w _ hc
  simp only at bB
  have HEN : Hid (EndsAt w B2 f) := hE
  have HCA : Hid (∀ W, Calls Tryd.prog 32 #[.agg #[.int .i64 (f 0).1, .int .i64 (f 0).2, .int .i64 (f 1).1, .int .i64 (f 1).2, .int .i64 (f 2).1, .int .i64 (f 2).2, .int .i64 (f 3).1, .int .i64 (f 3).2, .int .i64 (f 4).1, .int .i64 (f 4).2, .int .i64 (f 5).1, .int .i64 (f 5).2, .int .i64 (f 6).1, .int .i64 (f 6).2], .int .i64 t, .int .i64 j] W fun e w' => e = .returned (.bool r) ∧ Below W.heap.size W w') := fun W => by
    have h1 := ended_any f t j W (by omega) (by omega)
    rw [hr, cells14_lit] at h1
    exact h1
  clear hI ho hop hE ht1 ht6 hr
  go_enter Tryd.func31, Tryd.ntmps31
  go_upto_region 1 with (fail)
  obtain ⟨W, hW⟩ : ∃ W, W = w.alloc (.cells #[.int .i64 i, .int .i64 j] 55) := ⟨_, rfl⟩
  rw [← hW]
  obtain ⟨P, hP⟩ : ∃ P, P = w.heap.size := ⟨_, rfl⟩
  have p0 : W.cell? ⟨P, 0, none⟩ = some (.int .i64 i) := by rw [hW, hP]; exact (pair_box w _ _ _).1
  have p1 : W.cell? ⟨P, 1, none⟩ = some (.int .i64 j) := by rw [hW, hP]; exact (pair_box w _ _ _).2
  have hbw : Below w.heap.size w W := by rw [hW]; exact (Below.refl _ w).alloc (Nat.le_refl _) _
  have k0 := (hbw.cell (p := ⟨B1, 0, none⟩) bB).trans hc
  have k1 := (hbw.cell (p := ⟨b, off + i * 3, none⟩) hb).trans c0
  have HEW : Hid (EndsAt W B2 f) := HEN.out.below hbw HEN.out.lt
  have hPW : P < W.heap.size := World.block_lt_of_cell? W _ p0
  have hB1W : B1 < W.heap.size := World.block_lt_of_cell? W _ k0
  have hbW : b < W.heap.size := World.block_lt_of_cell? W _ k1
  have HB : Hid (Below w.heap.size w W) := hbw
  have hi' : (i : Int) < (l.length : Int) := by omega
  rw [← hP]
  clear hW hbw hc c0 hb bB hP
  obtain ⟨B, hA1, hA2⟩ : ∃ B, B ≤ W.heap.size ∧ W.heap.size ≤ B := ⟨_, Nat.le_refl _, Nat.le_refl _⟩
  have hne : Nonempty (Later B W) := ⟨⟨W, Below.refl _ _⟩⟩
  have g0 : ∀ y : Later B W, y.W.cell? ⟨P, 0, none⟩ = some (.int .i64 i) := fun y => (y.h.cell (p := ⟨P, 0, none⟩) (by show P < B; omega)).trans p0
  have g1 : ∀ y : Later B W, y.W.cell? ⟨P, 1, none⟩ = some (.int .i64 j) := fun y => (y.h.cell (p := ⟨P, 1, none⟩) (by show P < B; omega)).trans p1
  have g2 : ∀ y : Later B W, y.W.cell? ⟨B1, 0, none⟩ = some (.slice (some ⟨b, off, none⟩) l.length cap) := fun y => (y.h.cell (p := ⟨B1, 0, none⟩) (by show B1 < B; omega)).trans k0
  have g3 : ∀ y : Later B W, y.W.cell? ⟨b, off + i * 3, none⟩ = some (.int .i64 t) := fun y => (y.h.cell (p := ⟨b, off + i * 3, none⟩) (by show b < B; omega)).trans k1
  have E0 : ∀ y : Later B W, y.W.cell? ⟨B2, 0, none⟩ = some (.int .i64 (f 0).1) := fun y => by rw [cell_of_row y.W B2 _ _ _ _ (HEW.out.below y.h (by have := HEW.out.lt; omega))]; rfl
  have E1 : ∀ y : Later B W, y.W.cell? ⟨B2, 1, none⟩ = some (.int .i64 (f 0).2) := fun y => by rw [cell_of_row y.W B2 _ _ _ _ (HEW.out.below y.h (by have := HEW.out.lt; omega))]; rfl
  have E2 : ∀ y : Later B W, y.W.cell? ⟨B2, 2, none⟩ = some (.int .i64 (f 1).1) := fun y => by rw [cell_of_row y.W B2 _ _ _ _ (HEW.out.below y.h (by have := HEW.out.lt; omega))]; rfl
  have E3 : ∀ y : Later B W, y.W.cell? ⟨B2, 3, none⟩ = some (.int .i64 (f 1).2) := fun y => by rw [cell_of_row y.W B2 _ _ _ _ (HEW.out.below y.h (by have := HEW.out.lt; omega))]; rfl
  have E4 : ∀ y : Later B W, y.W.cell? ⟨B2, 4, none⟩ = some (.int .i64 (f 2).1) := fun y => by rw [cell_of_row y.W B2 _ _ _ _ (HEW.out.below y.h (by have := HEW.out.lt; omega))]; rfl
  have E5 : ∀ y : Later B W, y.W.cell? ⟨B2, 5, none⟩ = some (.int .i64 (f 2).2) := fun y => by rw [cell_of_row y.W B2 _ _ _ _ (HEW.out.below y.h (by have := HEW.out.lt; omega))]; rfl
  have E6 : ∀ y : Later B W, y.W.cell? ⟨B2, 6, none⟩ = some (.int .i64 (f 3).1) := fun y => by rw [cell_of_row y.W B2 _ _ _ _ (HEW.out.below y.h (by have := HEW.out.lt; omega))]; rfl
  have E7 : ∀ y : Later B W, y.W.cell? ⟨B2, 7, none⟩ = some (.int .i64 (f 3).2) := fun y => by rw [cell_of_row y.W B2 _ _ _ _ (HEW.out.below y.h (by have := HEW.out.lt; omega))]; rfl
  have E8 : ∀ y : Later B W, y.W.cell? ⟨B2, 8, none⟩ = some (.int .i64 (f 4).1) := fun y => by rw [cell_of_row y.W B2 _ _ _ _ (HEW.out.below y.h (by have := HEW.out.lt; omega))]; rfl
  have E9 : ∀ y : Later B W, y.W.cell? ⟨B2, 9, none⟩ = some (.int .i64 (f 4).2) := fun y => by rw [cell_of_row y.W B2 _ _ _ _ (HEW.out.below y.h (by have := HEW.out.lt; omega))]; rfl
  have E10 : ∀ y : Later B W, y.W.cell? ⟨B2, 10, none⟩ = some (.int .i64 (f 5).1) := fun y => by rw [cell_of_row y.W B2 _ _ _ _ (HEW.out.below y.h (by have := HEW.out.lt; omega))]; rfl
  have E11 : ∀ y : Later B W, y.W.cell? ⟨B2, 11, none⟩ = some (.int .i64 (f 5).2) := fun y => by rw [cell_of_row y.W B2 _ _ _ _ (HEW.out.below y.h (by have := HEW.out.lt; omega))]; rfl
  have E12 : ∀ y : Later B W, y.W.cell? ⟨B2, 12, none⟩ = some (.int .i64 (f 6).1) := fun y => by rw [cell_of_row y.W B2 _ _ _ _ (HEW.out.below y.h (by have := HEW.out.lt; omega))]; rfl
  have E13 : ∀ y : Later B W, y.W.cell? ⟨B2, 13, none⟩ = some (.int .i64 (f 6).2) := fun y => by rw [cell_of_row y.W B2 _ _ _ _ (HEW.out.below y.h (by have := HEW.out.lt; omega))]; rfl
  have HCQ : Hid (∀ y : Later B W, Calls Tryd.prog 32 #[.agg #[.int .i64 (f 0).1, .int .i64 (f 0).2, .int .i64 (f 1).1, .int .i64 (f 1).2, .int .i64 (f 2).1, .int .i64 (f 2).2, .int .i64 (f 3).1, .int .i64 (f 3).2, .int .i64 (f 4).1, .int .i64 (f 4).2, .int .i64 (f 5).1, .int .i64 (f 5).2, .int .i64 (f 6).1, .int .i64 (f 6).2], .int .i64 t, .int .i64 j] y.W fun e w' => e = .returned (.bool r) ∧ ∃ z : Later B W, w' = z.W) := fun y => Later.at y hA1 (HCA.out y.W)
  clear p0 p1 k0 k1 hPW hB1W hbW
  go_wp2_with fail
  refine region_later B (by kernel_rfl) (by kernel_rfl) ?_
  repeat (first | go_big_quiet_skip | (go_big_quiet_want; go_big_quiet_op; first | go_big_quiet_on | (refine ⟨_, fun y => HCQ.out y, ?_⟩; go_big_quiet_on)))
  refine wpQuiet_nil ?_
  intro V hV
  obtain ⟨y, rfl⟩ := hV
  have HBY : Hid (Below w.heap.size w y.W) := HB.out.trans (y.h.mono (by have := HB.out.size; omega))
  go_wp2_with fail
  go_ret
  exact ⟨by rw [HE.out]; rfl, HBY.out⟩
end Go.Proofs.YtjcaekhkeobhpahDoor
