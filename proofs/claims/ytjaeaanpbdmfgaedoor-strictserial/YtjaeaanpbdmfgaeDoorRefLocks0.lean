/-
  PROVED HERE: laneref1.LockOdds, Lock, clear0 and without answer as the plain functions on lists of locks say; lanesame.Locks says yes of two slices that hold the same list of locks. Old memory stays as it was.
  Conditions: the lists are short.
-/
import Derived.Test.YtjaeaanpbdmfgaeDoorMgad
import Derived.Test.YtjaeaanpbdmfgaeDoorOps
import Derived.Test.YtjaeaanpbdmfgaeDoorMgaf
import Derived.OwnWalk
import Derived.Deep.Cut
import Derived.Maps.AppendAt
namespace Go.Proofs.YtjaeaanpbdmfgaeDoor
open Go.RowKit

theorem infoLock : (Tryd.prog.info? 25).map (fun i => (i.zero, i.size, i.bytes)) = some (some (.agg #[.int .i64 0, .int .i64 0, .int .i64 0]), 3, 24) := by kernel_rfl
abbrev lkV (x : Op3) : Value := .agg #[.int .i64 x.1, .int .i64 x.2.1, .int .i64 x.2.2]
set_option maxHeartbeats 4000000 in
theorem lockOdds_raw (t i m t2 i2 m2 : Int) (w : World) : Calls Tryd.prog 39 #[.agg #[.int .i64 t, .int .i64 i, .int .i64 m], .agg #[.int .i64 t2, .int .i64 i2, .int .i64 m2]] w fun e w' => e = .returned (.bool (lodd (t, i, m) (t2, i2, m2))) ∧ w' = (w.alloc (.cells #[.int .i64 t, .int .i64 i, .int .i64 m] 25)).alloc (.cells #[.int .i64 t2, .int .i64 i2, .int .i64 m2] 25) := by
  go_enter Tryd.func39, Tryd.ntmps39
  go_wp2
  all_goals go_ret
  all_goals exact ⟨ret_bool (by first | (simp_all [lodd]; done) | (simp_all [lodd]; intros; omega)), by first | rfl | simp_all⟩
theorem lockOdds_any (a b : Op3) (w : World) : Calls Tryd.prog 39 #[lkV a, lkV b] w fun e w' => e = .returned (.bool (lodd a b)) ∧ Below w.heap.size w w' :=
  (lockOdds_raw a.1 a.2.1 a.2.2 b.1 b.2.1 b.2.2 w).mono fun _ _ ⟨he, hw⟩ => ⟨he, by rw [hw]; exact ((Below.refl _ w).alloc (Nat.le_refl _) _).alloc (by simp) _⟩
theorem lTx_any (t : Int) (w : World) : Calls Tryd.prog 7 #[.int .i64 t] w fun e w' => e = .returned (.bool (decide (1 ≤ t ∧ t ≤ 6))) ∧ w' = w := by
  go_enter Tryd.func7, Tryd.ntmps7
  go_wp2
  all_goals go_ret
  all_goals exact ⟨ret_bool (by first | (simp_all; done) | (simp_all; omega)), by first | rfl | simp_all⟩
set_option maxHeartbeats 4000000 in
theorem lock_raw (t i m : Int) (w : World) : Calls Tryd.prog 14 #[.agg #[.int .i64 t, .int .i64 i, .int .i64 m]] w fun e w' => e = .returned (.bool (isLock (t, i, m))) ∧ Below w.heap.size w w' := by
  go_enter Tryd.func14, Tryd.ntmps14
  go_wp2_with (go_at_call 7; refine (lTx_any _ _).mono ?_; rintro e w' ⟨rfl, rfl⟩)
  all_goals go_ret
  all_goals exact ⟨ret_bool (by first | (simp_all [isLock]; done) | (simp_all [isLock]; intros; omega)), by exact (Below.refl _ w).alloc (Nat.le_refl _) _⟩
theorem lock_any (x : Op3) (w : World) : Calls Tryd.prog 14 #[lkV x] w fun e w' => e = .returned (.bool (isLock x)) ∧ Below w.heap.size w w' := lock_raw _ _ _ w
theorem clear_step {l : List Op3} {k : Nat} {x : Op3} (hk : k < l.length) : clearL (l.take (k + 1)) x = (clearL (l.take k) x && !lodd (opAt l k) x) := by
  rw [List.take_succ_eq_append_getElem hk]
  have : l[k] = opAt l k := by simp [opAt, List.getD, List.getElem?_eq_getElem hk]
  simp [clearL, this]
theorem clear_hit {l : List Op3} {k : Nat} {x : Op3} (hk : k < l.length) (h : lodd (opAt l k) x = true) : clearL l x = false := by
  have hm := opAt_mem hk
  cases hc : clearL l x with
  | false => rfl
  | true => rw [clearL_iff.1 hc _ hm] at h; cases h
set_option maxHeartbeats 8000000 in
theorem clear_any (l : List Op3) (v : Value) (x : Op3) (w : World) (hI : IsOps w v l) (hl : l.length ≤ 1000) :
    Calls Tryd.prog 27 #[v, lkV x] w fun e w' => e = .returned (.bool (clearL l x)) ∧ Below w.heap.size w w' := by
  obtain ⟨t2, i2, m2⟩ := x
  obtain ⟨ad, b, off, cap, rfl, ha, -, hbB, hops⟩ := hI
  have HE : Hid (∀ W, Below w.heap.size w W → ∀ k, k < l.length → ad = some ⟨b, off, none⟩ ∧ b < w.heap.size ∧ W.cell? ⟨b, off + k * 3, none⟩ = some (.int .i64 (opAt l k).1) ∧ W.cell? ⟨b, off + k * 3 + 1, none⟩ = some (.int .i64 (opAt l k).2.1) ∧ W.cell? ⟨b, off + k * 3 + 2, none⟩ = some (.int .i64 (opAt l k).2.2)) := fun W hW k hk => by
    refine ⟨ha (by omega), ?_, (hops.below hW hbB) k hk⟩
    rcases hbB with h | h
    · exact h
    · subst h; simp at hk
  clear ha hbB hops
  go_enter Tryd.func27, Tryd.ntmps27
  go_wp2_with fail
  go_loopw [5] (fun v5 wr => ∃ k : Nat, k ≤ l.length ∧ v5 = .int .i64 k ∧ clearL (l.take k) (t2, i2, m2) = true ∧ Below w.heap.size w wr ∧ wr.cell? ⟨w.heap.size, 0, none⟩ = some (.int .i64 t2) ∧ wr.cell? ⟨w.heap.size, 1, none⟩ = some (.int .i64 i2) ∧ wr.cell? ⟨w.heap.size, 2, none⟩ = some (.int .i64 m2)) (fun v5 _ => l.length - (intOf v5).toNat)
  case atStart => exact ⟨0, Nat.zero_le _, rfl, rfl, (Below.refl _ w).alloc (Nat.le_refl _) _, by simp, by simp, by simp⟩
  case round =>
    obtain ⟨k, hk, rfl, hcl, hbel, p0, p1, p2⟩ := hrel
    have HCL : Hid (clearL (l.take k) (t2, i2, m2) = true) := hcl
    have HBEL : Hid (Below w.heap.size w wr) := hbel
    clear hcl
    by_cases hlt : k < l.length
    · have hlt' : (k : Int) < (l.length : Int) := by omega
      obtain ⟨hadr, hbl, c0, c1, c2⟩ := HE.out wr hbel k hlt
      subst hadr
      have hsz := hbel.size
      have hP : w.heap.size < wr.heap.size := World.block_lt_of_cell? wr _ p0
      obtain ⟨B, hB1, hB2⟩ : ∃ B, B ≤ wr.heap.size ∧ wr.heap.size ≤ B := ⟨_, Nat.le_refl _, Nat.le_refl _⟩
      have hne : Nonempty (Later B wr) := ⟨⟨wr, Below.refl _ _⟩⟩
      have HODD0 : ∀ y : Later B wr, Calls Tryd.prog 39 #[.agg #[.int .i64 (opAt l k).1, .int .i64 (opAt l k).2.1, .int .i64 (opAt l k).2.2], .agg #[.int .i64 t2, .int .i64 i2, .int .i64 m2]] y.W fun e w' => e = .returned (.bool (lodd (opAt l k) (t2, i2, m2))) ∧ ∃ z : Later B wr, w' = z.W := fun y => Later.at y hB1 (lockOdds_any (opAt l k) (t2, i2, m2) y.W)
      obtain ⟨⟨t, a, i⟩, ho⟩ : ∃ o : Op3, opAt l k = o := ⟨_, rfl⟩
      have HO : Hid (opAt l k = (t, a, i)) := ho
      rw [ho] at c0 c1 c2 HODD0
      simp only at c0 c1 c2 HODD0
      clear ho
      have e0 : ∀ y : Later B wr, y.W.cell? ⟨b, off + k * 3, none⟩ = some (.int .i64 t) := fun y => (y.h.cell (p := ⟨b, off + k * 3, none⟩) (by simp; omega)).trans c0
      have e1 : ∀ y : Later B wr, y.W.cell? ⟨b, off + k * 3 + 1, none⟩ = some (.int .i64 a) := fun y => (y.h.cell (p := ⟨b, off + k * 3 + 1, none⟩) (by simp; omega)).trans c1
      have e2 : ∀ y : Later B wr, y.W.cell? ⟨b, off + k * 3 + 2, none⟩ = some (.int .i64 i) := fun y => (y.h.cell (p := ⟨b, off + k * 3 + 2, none⟩) (by simp; omega)).trans c2
      have g0 : ∀ y : Later B wr, y.W.cell? ⟨w.heap.size, 0, none⟩ = some (.int .i64 t2) := fun y => (y.h.cell (p := ⟨w.heap.size, 0, none⟩) (by simp; omega)).trans p0
      have g1 : ∀ y : Later B wr, y.W.cell? ⟨w.heap.size, 1, none⟩ = some (.int .i64 i2) := fun y => (y.h.cell (p := ⟨w.heap.size, 1, none⟩) (by simp; omega)).trans p1
      have g2 : ∀ y : Later B wr, y.W.cell? ⟨w.heap.size, 2, none⟩ = some (.int .i64 m2) := fun y => (y.h.cell (p := ⟨w.heap.size, 2, none⟩) (by simp; omega)).trans p2
      have HG : Hid (∀ y : Later B wr, y.W.cell? ⟨w.heap.size, 0, none⟩ = some (.int .i64 t2) ∧ y.W.cell? ⟨w.heap.size, 1, none⟩ = some (.int .i64 i2) ∧ y.W.cell? ⟨w.heap.size, 2, none⟩ = some (.int .i64 m2)) := fun y => ⟨g0 y, g1 y, g2 y⟩
      clear c0 c1 c2 p0 p1 p2 hbel
      cases hq : lodd (t, a, i) (t2, i2, m2) with
      | false =>
        have HQ : Hid (clearL (l.take (k + 1)) (t2, i2, m2) = true) := by show clearL (l.take (k + 1)) _ = true; rw [clear_step hlt, HCL.out, HO.out, hq]; rfl
        rw [hq] at HODD0
        have HODD : Hid (∀ y : Later B wr, Calls Tryd.prog 39 #[.agg #[.int .i64 t, .int .i64 a, .int .i64 i], .agg #[.int .i64 t2, .int .i64 i2, .int .i64 m2]] y.W fun e w' => e = .returned (.bool false) ∧ ∃ z : Later B wr, w' = z.W) := HODD0
        clear HODD0 hq
        go_wp2_with fail
        refine region_later B (by kernel_rfl) (by kernel_rfl) ?_
        repeat (first | go_big_quiet_skip | (go_big_quiet_want; go_big_quiet_op; first | go_big_quiet_on | (refine ⟨_, fun y => HODD.out y, ?_⟩; go_big_quiet_on)))
        refine wpQuiet_nil ?_
        intro W hW
        obtain ⟨y, rfl⟩ := hW
        go_wp2
        go_roundw
        case rel => exact ⟨k + 1, by omega, by go_num, HQ.out, HBEL.out.trans (y.h.mono (by omega)), HG.out y⟩
        case measure => simp [intOf]; omega
      | true =>
        have HQ : Hid (clearL l (t2, i2, m2) = false) := clear_hit hlt (by rw [HO.out]; exact hq)
        rw [hq] at HODD0
        have HODD : Hid (∀ y : Later B wr, Calls Tryd.prog 39 #[.agg #[.int .i64 t, .int .i64 a, .int .i64 i], .agg #[.int .i64 t2, .int .i64 i2, .int .i64 m2]] y.W fun e w' => e = .returned (.bool true) ∧ ∃ z : Later B wr, w' = z.W) := HODD0
        clear HODD0 hq
        go_wp2_with fail
        refine region_later B (by kernel_rfl) (by kernel_rfl) ?_
        repeat (first | go_big_quiet_skip | (go_big_quiet_want; go_big_quiet_op; first | go_big_quiet_on | (refine ⟨_, fun y => HODD.out y, ?_⟩; go_big_quiet_on)))
        refine wpQuiet_nil ?_
        intro W hW
        obtain ⟨y, rfl⟩ := hW
        go_wp2
        go_ret
        exact ⟨ret_bool HQ.out.symm, HBEL.out.trans (y.h.mono (by omega))⟩
    · have hlt' : ¬ (k : Int) < (l.length : Int) := by omega
      obtain rfl : k = l.length := by omega
      have HQ : Hid (clearL l (t2, i2, m2) = true) := by
        show clearL l _ = true
        have := HCL.out
        rw [List.take_length] at this
        exact this
      clear p0 p1 p2 hbel
      go_wp2_with fail
      go_ret
      exact ⟨ret_bool HQ.out.symm, HBEL.out⟩
theorem without_step {l : List Op3} {k : Nat} {t : Int} (hk : k < l.length) : withoutL (l.take (k + 1)) t = withoutL (l.take k) t ++ (if (opAt l k).1 = t then [] else [opAt l k]) := by
  rw [List.take_succ_eq_append_getElem hk]
  have : l[k] = opAt l k := by simp [opAt, List.getD, List.getElem?_eq_getElem hk]
  rw [this]
  unfold withoutL
  rw [List.filter_append]
  congr 1
  by_cases h : (opAt l k).1 = t
  · simp [h]
  · simp [h]
theorem lock_new (w : World) (x : Op3) (t : TypeId) : ∀ j u, (flat [x])[j]? = some u → (w.alloc (.cells #[.int .i64 x.1, .int .i64 x.2.1, .int .i64 x.2.2] t)).cell? ((⟨w.heap.size, 0, none⟩ : Addr).add j) = some u := by
  intro j u hj
  rw [Addr.add_lit]
  have hj3 : j < 3 := by simpa [flat] using (List.getElem?_eq_some_iff.1 hj).1
  rcases (show j = 0 ∨ j = 1 ∨ j = 2 by omega) with rfl | rfl | rfl
  all_goals
    simp [flat] at hj
    subst hj
    simp
set_option maxHeartbeats 8000000 in
theorem without_any (l : List Op3) (v : Value) (t : Int) (w : World) (hI : IsOps w v l) (hl : l.length ≤ 1000) :
    Calls Tryd.prog 26 #[v, .int .i64 t] w fun e w' => ∃ v', e = .returned v' ∧ w'.ownsRow w.heap.size 25 3 v' (withoutL l t).length (flat (withoutL l t)) ∧ Below w.heap.size w w' := by
  obtain ⟨ad, b, off, cap, rfl, ha, -, hbB, hops⟩ := hI
  have HE : Hid (∀ W, Below w.heap.size w W → ∀ k, k < l.length → ad = some ⟨b, off, none⟩ ∧ W.cell? ⟨b, off + k * 3, none⟩ = some (.int .i64 (opAt l k).1) ∧ W.cell? ⟨b, off + k * 3 + 1, none⟩ = some (.int .i64 (opAt l k).2.1) ∧ W.cell? ⟨b, off + k * 3 + 2, none⟩ = some (.int .i64 (opAt l k).2.2)) := fun W hW k hk => ⟨ha (by omega), (hops.below hW hbB) k hk⟩
  obtain ⟨i0, hi, hz0, hs0, hy0⟩ := info_parts infoLock
  have HI : Hid (Tryd.prog.info? 25 = some i0 ∧ i0.zero = some (.agg #[.int .i64 0, .int .i64 0, .int .i64 0]) ∧ i0.size = 3 ∧ i0.bytes = 24) := ⟨hi, hz0, hs0, hy0⟩
  clear ha hbB hops hi hz0 hs0 hy0
  go_enter Tryd.func26, Tryd.ntmps26
  go_wp2_with fail
  go_loopw [5, 6] (fun v5 v6 wr => ∃ k : Nat, k ≤ l.length ∧ v6 = .int .i64 k ∧ wr.ownsRow w.heap.size 25 3 v5 (withoutL (l.take k) t).length (flat (withoutL (l.take k) t)) ∧ Below w.heap.size w wr) (fun _ v6 _ => l.length - (intOf v6).toNat)
  case atStart => exact ⟨0, Nat.zero_le _, rfl, World.ownsRow_nil _ _ _ _, Below.refl _ _⟩
  case round =>
    obtain ⟨k, hk, rfl, hown, hbel⟩ := hrel
    have HB : Hid (Below w.heap.size w wr) := hbel
    have hsz := hbel.size
    by_cases hlt : k < l.length
    · have hlt' : (k : Int) < (l.length : Int) := by omega
      obtain ⟨hadr, c0, c1, c2⟩ := HE.out wr hbel k hlt
      subst hadr
      obtain ⟨⟨t2, i2, m2⟩, ho⟩ : ∃ o : Op3, opAt l k = o := ⟨_, rfl⟩
      have HO : Hid (opAt l k = (t2, i2, m2)) := ho
      rw [ho] at c0 c1 c2
      simp only at c0 c1 c2
      clear ho hbel
      have HL : Hid ((withoutL (l.take k) t).length ≤ 1000) := by
        show (withoutL (l.take k) t).length ≤ 1000
        have h1 : (withoutL (l.take k) t).length ≤ (l.take k).length := List.length_filter_le _ _
        have h2 : (l.take k).length ≤ k := List.length_take_le _ _
        omega
      obtain ⟨n, hn⟩ : ∃ n, (withoutL (l.take k) t).length = n := ⟨_, rfl⟩
      have HN : Hid ((withoutL (l.take k) t).length = n) := hn
      have hn1 : n ≤ 1000 := by rw [← hn]; exact HL.out
      rw [hn] at hown
      have HOWN : Hid (wr.ownsRow w.heap.size 25 3 u5 n (flat (withoutL (l.take k) t))) := hown
      clear hown hn
      by_cases he : t2 = t
      · have HS : Hid (withoutL (l.take (k + 1)) t = withoutL (l.take k) t) := by show withoutL _ t = _; rw [without_step hlt, HO.out, if_pos he]; simp
        have he' : (t2 != t) = false := by simp [he]
        go_wp2_with fail
        go_roundw
        case rel => exact ⟨k + 1, by omega, by go_num, by rw [HS.out, HN.out]; exact HOWN.out, HB.out⟩
        case measure => simp [intOf]; omega
      · have HS : Hid (withoutL (l.take (k + 1)) t = withoutL (l.take k) t ++ [(t2, i2, m2)]) := by show withoutL _ t = _; rw [without_step hlt, HO.out, if_neg he]
        have he' : (t2 != t) = true := by simp [he]
        go_wp2_with (at_builtin; refine wpList_append_own _ rfl (.tmp 20) (.tmp 25) 22 rfl w.heap.size 25 i0 (.agg #[.int .i64 0, .int .i64 0, .int .i64 0]) 3 24 Tryd.underlying22 HI.out.1 HI.out.2.1 HI.out.2.2.1 HI.out.2.2.2 rfl (by decide) u5 n (flat (withoutL (l.take k) t)) rfl (HOWN.out.alloc _) ⟨wr.heap.size, 0, none⟩ 1 1 (flat [(t2, i2, m2)]) rfl rfl (lock_new wr (t2, i2, m2) _) (flat_one _) (by unfold maxLen; omega) (by omega) (by simp; omega) ?_; intro v1 w1 hown1 hgr1 hnil1)
        have hB1 := (HB.out.alloc HB.out.size _).grown hgr1 (by simp; omega) (fun g hg => (HOWN.out.lt g hg).1)
        go_roundw
        case rel => exact ⟨k + 1, by omega, by go_num, by rw [HS.out, List.length_append, HN.out, flat_append]; exact hown1, hB1⟩
        case measure => simp [intOf]; omega
    · have hlt' : ¬ (k : Int) < (l.length : Int) := by omega
      obtain rfl : k = l.length := by omega
      rw [List.take_length] at hown
      go_wp2_with fail
      go_ret
      exact ⟨_, rfl, hown, HB.out⟩
set_option maxHeartbeats 4000000 in
theorem same_locks (l : List Op3) (v u : Value) (w : World) (hv : IsOps w v l) (hu : IsOps w u l) (hlen : l.length ≤ 140737488351) :
    Calls Tryd.prog 11 #[v, u] w fun e w' => e = .returned (.bool true) ∧ Below w.heap.size w w' := by
  obtain ⟨ad, b, off, cap, rfl, ha, _, hbB, hops⟩ := hv
  obtain ⟨ad2, b2, off2, cap2, rfl, ha2, _, hbB2, hops2⟩ := hu
  go_enter Tryd.func11, Tryd.ntmps11
  go_wp2
  go_loopw [5] (fun v5 wr => ∃ k : Nat, k ≤ l.length ∧ v5 = .int .i64 k ∧ Below w.heap.size w wr) (fun v5 _ => l.length - (intOf v5).toNat)
  case atStart => exact ⟨0, Nat.zero_le _, rfl, Below.refl _ _⟩
  case round =>
    obtain ⟨k, hk, rfl, hbel⟩ := hrel
    by_cases hlt : k < l.length
    · obtain rfl := ha (by omega)
      obtain rfl := ha2 (by omega)
      obtain ⟨c0, c1, c2⟩ := (hops.below hbel hbB) k hlt
      obtain ⟨d0, d1, d2⟩ := (hops2.below hbel hbB2) k hlt
      obtain ⟨⟨t, a, i⟩, ho⟩ : ∃ o : Op3, l.getD k (0, 0, 0) = o := ⟨_, rfl⟩
      rw [ho] at c0 c1 c2 d0 d1 d2
      simp only at c0 c1 c2 d0 d1 d2
      clear ho hops hops2 ha ha2 hbB hbB2
      go_wp2
      go_quiet (fail)
      go_wp2
      go_roundw
      case rel => exact ⟨k + 1, by omega, by go_num, below_drewN hbel _⟩
      case measure => simp [intOf]; omega
    · go_wp2
      go_ret
      exact ⟨rfl, hbel⟩
end Go.Proofs.YtjaeaanpbdmfgaeDoor
