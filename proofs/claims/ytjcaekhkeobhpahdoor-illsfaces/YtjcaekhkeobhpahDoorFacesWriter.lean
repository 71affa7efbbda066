/-
  PROVED HERE: faces.writer tells who wrote an item last in a list of ops, of those that have not aborted within it. Old memory stays as it was.
  Conditions: the list is short, and its ops are ops.
-/
import Derived.Test.YtjcaekhkeobhpahDoorFacesEnds2
namespace Go.Proofs.YtjcaekhkeobhpahDoor
open Go.RowKit

theorem cell_older {W : World} {a : Addr} {v : Value} (o : Obj) (h : W.cell? a = some v) : (W.alloc o).cell? a = some v :=
  (((Below.refl W.heap.size W).alloc (Nat.le_refl _) o).cell (World.block_lt_of_cell? W _ h)).trans h
theorem cell_first (W : World) (v : Value) (ty : TypeId) : (W.alloc (.cells #[v] ty)).cell? ⟨W.heap.size, 0, none⟩ = some v := by simp
/-- A Write of the item by one that has not aborted by then. -/
def countB (f : Nat → Int × Int) (y n : Int) (o : Op3) : Bool := o.2.1 == 2 && (o.2.2 == y && !byE f o.1 n 4)
set_option maxHeartbeats 4000000 in
theorem counts_any (f : Nat → Int × Int) (t a x y : Int) (ad : Option Addr) (n cap B1 B2 B3 : Nat) (w : World) (h0 : 0 ≤ t) (h7 : t < 7) (c1 : w.cell? ⟨B1, 0, none⟩ = some (.int .i64 y)) (hE : EndsAt w B2 f) (c3 : w.cell? ⟨B3, 0, none⟩ = some (.slice ad n cap)) :
    Calls Tryd.prog 59 #[.agg #[.int .i64 t, .int .i64 a, .int .i64 x], .pointer (some ⟨B1, 0, none⟩), .pointer (some ⟨B2, 0, none⟩), .pointer (some ⟨B3, 0, none⟩)] w fun e w' => e = .returned (.bool (countB f y n (t, a, x))) ∧ Below w.heap.size w w' := by
  have b1 := World.block_lt_of_cell? w _ c1
  have b3 := World.block_lt_of_cell? w _ c3
  simp only at b1 b3
  go_enter Tryd.func59, Tryd.ntmps59
  go_upto_region 1 with (fail)
  obtain ⟨W, hW⟩ : ∃ W, W = w.alloc (.cells #[.int .i64 t, .int .i64 a, .int .i64 x] 37) := ⟨_, rfl⟩
  rw [← hW]
  obtain ⟨P, hP⟩ : ∃ P, P = w.heap.size := ⟨_, rfl⟩
  rw [← hP]
  have p0 : W.cell? ⟨P, 0, none⟩ = some (.int .i64 t) := by rw [hW, hP]; simp
  have p1 : W.cell? ⟨P, 1, none⟩ = some (.int .i64 a) := by rw [hW, hP]; simp
  have p2 : W.cell? ⟨P, 2, none⟩ = some (.int .i64 x) := by rw [hW, hP]; simp
  have hbw : Below w.heap.size w W := by rw [hW]; exact (Below.refl _ w).alloc (Nat.le_refl _) _
  have k1 := (hbw.cell (p := ⟨B1, 0, none⟩) b1).trans c1
  have k3 := (hbw.cell (p := ⟨B3, 0, none⟩) b3).trans c3
  have HE : Hid (EndsAt W B2 f) := hE.below hbw hE.lt
  have HB : Hid (Below w.heap.size w W) := hbw
  rw [hP]
  clear hW hbw hE c1 c3 b1 b3
  rw [← hP]
  have HP : Hid (P = w.heap.size) := hP
  clear hP
  by_cases ha : a = 2
  · subst ha
    by_cases hx : x = y
    · subst hx
      go_wp2_with (refine wpList_load_row1 rfl 64 (.tmp 2) rfl B2 rfl 64 (cells14 f) (0, 0) _ HE.out Tryd.underlying64 rfl (ends_info' _) ?_)
      refine (aborted_any f t n _ h0 h7).mono ?_
      rintro e w1 ⟨rfl, hb1⟩
      have HB1 : Hid (Below w.heap.size w w1) := HB.out.trans (hb1.mono HB.out.size)
      clear hb1
      go_wp2_with fail
      go_ret
      exact ⟨by simp [countB], by first | exact HB1.out | (rw [HP.out]; exact HB1.out)⟩
    · have hx' : (x == y) = false := by simpa using hx
      clear hx
      go_wp2_with fail
      go_ret
      exact ⟨by simp [countB, hx'], by first | exact HB.out | (rw [HP.out]; exact HB.out)⟩
  · have ha' : (a == 2) = false := by simpa using ha
    clear ha
    go_wp2_with fail
    go_ret
    exact ⟨by simp [countB, ha'], by first | exact HB.out | (rw [HP.out]; exact HB.out)⟩
/-- Who wrote last, among the first k. -/
def wTo (f : Nat → Int × Int) (y n : Int) (m : List Op3) : Nat → Int
  | 0 => 0
  | k + 1 => if countB f y n (opAt m k) = true then (opAt m k).1 else wTo f y n m k
theorem wTo_hit {f : Nat → Int × Int} {y n : Int} {m : List Op3} {k : Nat} (h : countB f y n (opAt m k) = true) : wTo f y n m (k + 1) = (opAt m k).1 := if_pos h
theorem wTo_miss {f : Nat → Int × Int} {y n : Int} {m : List Op3} {k : Nat} (h : countB f y n (opAt m k) = false) : wTo f y n m (k + 1) = wTo f y n m k := if_neg (by rw [h]; decide)
set_option maxHeartbeats 8000000 in
theorem writer_any (f : Nat → Int × Int) (y : Int) (m : List Op3) (v : Value) (w : World) (hI : IsOps w v m) (hl : m.length ≤ 40) (hop : ∀ o ∈ m, isOpB o = true) :
    Calls Tryd.prog 47 #[v, .int .i64 y, .agg (cells14 f)] w fun e w' => e = .returned (.int .i64 (wTo f y m.length m m.length)) ∧ Below w.heap.size w w' := by
  obtain ⟨ad, b, off, cap, rfl, had, -, hbB, hops⟩ := hI
  have HO : Hid (∀ W, Below w.heap.size w W → ∀ k, k < m.length → ad = some ⟨b, off, none⟩ ∧ W.cell? ⟨b, off + k * 3, none⟩ = some (.int .i64 (opAt m k).1) ∧ W.cell? ⟨b, off + k * 3 + 1, none⟩ = some (.int .i64 (opAt m k).2.1) ∧ W.cell? ⟨b, off + k * 3 + 2, none⟩ = some (.int .i64 (opAt m k).2.2)) := fun W hW k hk => ⟨had (by omega), (hops.below hW hbB) k hk⟩
  have HOP : Hid (∀ o ∈ m, isOpB o = true) := hop
  obtain ⟨n, hn⟩ : ∃ n, m.length = n := ⟨_, rfl⟩
  rw [hn] at hl HO ⊢
  have HN : Hid (m.length = n) := hn
  clear had hbB hops hop hn
  go_enter Tryd.func47, Tryd.ntmps47
  go_wp2
  go_loopw [8] (fun v8 wr => ∃ (k : Nat) (i : Int), k ≤ n ∧ i + 1 = k ∧ v8 = .int .i64 i ∧ Below w.heap.size w wr ∧ wr.cell? ⟨w.heap.size, 0, none⟩ = some (.slice ad n cap) ∧ wr.cell? ⟨w.heap.size + 1, 0, none⟩ = some (.int .i64 y) ∧ EndsAt wr (w.heap.size + 2) f ∧ wTo f y n m k = wTo f y n m n) (fun v8 _ => (intOf v8 + 1).toNat)
  case atStart =>
    refine ⟨n, (n : Int) - 1, Nat.le_refl _, by omega, by go_num, (((Below.refl _ w).alloc (Nat.le_refl _) _).alloc (by simp) _).alloc (by simp; omega) _, ?_, ?_, ?_, rfl⟩
    · exact cell_older _ (cell_older _ (cell_first w _ _))
    · have h2 := cell_first (w.alloc (.cells #[.slice ad n cap] 22)) (.int .i64 y) 3
      rw [show (w.alloc (.cells #[.slice ad n cap] 22)).heap.size = w.heap.size + 1 by simp] at h2
      exact cell_older _ h2
    have h1 := ends_box ((w.alloc (.cells #[.slice ad n cap] 22)).alloc (.cells #[.int .i64 y] 3)) f
    rw [show ((w.alloc (.cells #[.slice ad n cap] 22)).alloc (.cells #[.int .i64 y] 3)).heap.size = w.heap.size + 2 by simp] at h1
    exact h1
  case round =>
    obtain ⟨k, i, hk, hik, rfl, hbel, s0, s1, s2, hans⟩ := hrel
    have HB : Hid (Below w.heap.size w wr) := hbel
    have HE : Hid (EndsAt wr (w.heap.size + 2) f) := s2
    have HA : Hid (wTo f y n m k = wTo f y n m n) := hans
    clear s2 hans
    by_cases h0 : 0 ≤ i
    · obtain ⟨j, rfl⟩ : ∃ j : Nat, i = j := ⟨i.toNat, by omega⟩
      have hkj : k = j + 1 := by omega
      have HA' : Hid (wTo f y n m (j + 1) = wTo f y n m n) := by show _ = _; rw [← hkj]; exact HA.out
      have hjn : (j : Int) < (n : Int) := by omega
      obtain ⟨hadr, c0, c1, c2⟩ := HO.out wr hbel j (by omega)
      subst hadr
      obtain ⟨⟨t, a, x⟩, ho⟩ : ∃ o : Op3, opAt m j = o := ⟨_, rfl⟩
      have hisop := HOP.out _ (opAt_mem (show j < m.length by rw [HN.out]; omega))
      rw [ho] at c0 c1 c2 hisop
      obtain ⟨ht1, ht6⟩ := isOp_tx hisop
      have HOA : Hid (opAt m j = (t, a, x)) := ho
      simp only at c0 c1 c2 ht1 ht6
      have HC : Hid (Calls Tryd.prog 59 #[.agg #[.int .i64 t, .int .i64 a, .int .i64 x], .pointer (some ⟨w.heap.size + 1, 0, none⟩), .pointer (some ⟨w.heap.size + 2, 0, none⟩), .pointer (some ⟨w.heap.size, 0, none⟩)] wr fun e w' => e = .returned (.bool (countB f y n (t, a, x))) ∧ Below wr.heap.size wr w') := counts_any f t a x y _ n cap _ _ _ wr (by omega) (by omega) s1 HE.out s0
      have b0 := World.block_lt_of_cell? wr _ s0
      have b1 := World.block_lt_of_cell? wr _ s1
      simp only at b0 b1
      clear ho hisop hkj hik HA hbel
      cases hc : countB f y n (t, a, x) with
      | false =>
        rw [hc] at HC
        have HM : Hid (wTo f y n m (j + 1) = wTo f y n m j) := wTo_miss (by rw [HOA.out]; exact hc)
        clear hc
        go_wp2_with (go_at_call 59; refine HC.out.mono ?_; rintro e w1 ⟨rfl, hb1⟩)
        have r0 := (hb1.cell (p := ⟨w.heap.size, 0, none⟩) b0).trans s0
        have r1 := (hb1.cell (p := ⟨w.heap.size + 1, 0, none⟩) b1).trans s1
        go_roundw
        case rel => exact ⟨j, (j : Int) - 1, by omega, by omega, by go_num, HB.out.trans (hb1.mono HB.out.size), r0, r1, HE.out.below hb1 HE.out.lt, by rw [← HM.out]; exact HA'.out⟩
        case measure => simp [intOf]
      | true =>
        rw [hc] at HC
        have HM : Hid (wTo f y n m n = t) := by
          show wTo f y n m n = t
          rw [← HA'.out, wTo_hit (by rw [HOA.out]; exact hc), HOA.out]
        clear hc
        go_wp2_with (go_at_call 59; refine HC.out.mono ?_; rintro e w1 ⟨rfl, hb1⟩; have r0 := (hb1.cell (p := ⟨w.heap.size, 0, none⟩) b0).trans s0; have q0 := (hb1.cell (p := ⟨b, off + j * 3, none⟩) (World.block_lt_of_cell? wr _ c0)).trans c0)
        go_ret
        exact ⟨by rw [HM.out]; rfl, HB.out.trans (hb1.mono HB.out.size)⟩
    · obtain rfl : k = 0 := by omega
      have hi : ¬ 0 ≤ i := h0
      clear hik
      go_wp2_with fail
      go_ret
      exact ⟨by rw [← HA.out]; rfl, HB.out⟩
end Go.Proofs.YtjcaekhkeobhpahDoor
