/-
  PROVED HERE: laneref1.Table's methods Waiting and hold, over a table in memory. Of the blocks that there were, only the table's own turn.
  Conditions: the lists are short.
-/
import Derived.Test.YtjaeaanpbdmfgaeDoorRefLocks0
import Derived.Test.YtjaeaanpbdmfgaeDoorMgat
import Derived.Test.YtjaeaanpbdmfgaeDoorAppendApart
namespace Go.Proofs.YtjaeaanpbdmfgaeDoor
open Go.RowKit

theorem row_cells {w : World} {base e n : Nat} {v : Value} {l : List Op3} (h : w.ownsRow base e 3 v n (flat l)) (hl : l.length = n) {k : Nat} (hk : k < n) : ∃ g c, v = .slice (some ⟨g, 0, none⟩) n c ∧ base ≤ g ∧ g < w.heap.size ∧ (∀ j, w.frozen? ⟨g, j, none⟩ = false) ∧ w.cell? ⟨g, k * 3, none⟩ = some (.int .i64 (opAt l k).1) ∧ w.cell? ⟨g, k * 3 + 1, none⟩ = some (.int .i64 (opAt l k).2.1) ∧ w.cell? ⟨g, k * 3 + 2, none⟩ = some (.int .i64 (opAt l k).2.2) := by
  obtain ⟨ad, c, hv, hg⟩ := own_slice3 h
  obtain ⟨g, rfl, h1, h2, h3⟩ := hg (by omega)
  refine ⟨g, c, hv, h1, h2, h3, ?_⟩
  obtain ⟨f0, f1, f2⟩ := flat_at l k (by omega)
  have hc := fun j u hj => h.cells (g := g) (by rw [hv]; rfl) j u hj
  refine ⟨?_, ?_, ?_⟩
  · have := hc _ _ f0; rw [Addr.add_lit, Nat.zero_add] at this; exact this
  · have := hc _ _ f1; rw [Addr.add_lit, Nat.zero_add] at this; exact this
  · have := hc _ _ f2; rw [Addr.add_lit, Nat.zero_add] at this; exact this
theorem waits_take {l : List Op3} {t : Int} (h : ∀ j, j < l.length → (opAt l j).1 ≠ t) : waitsB l t = false := by
  cases hh : waitsB l t with
  | false => rfl
  | true =>
    simp only [waitsB, List.any_eq_true, beq_iff_eq] at hh
    obtain ⟨y, hy, he⟩ := hh
    obtain ⟨i, hi, rfl⟩ := List.mem_iff_getElem.1 hy
    exact absurd (by simpa [opAt, List.getD, hi] using he) (h i hi)
theorem waits_hit {l : List Op3} {t : Int} {j : Nat} (hj : j < l.length) (h : (opAt l j).1 = t) : waitsB l t = true := by
  simp only [waitsB, List.any_eq_true, beq_iff_eq]
  exact ⟨_, opAt_mem hj, h⟩
set_option maxHeartbeats 4000000 in
theorem waiting_any (ty : TypeId) (T o : Nat) (cs : Array Value) (hv wv : Value) (s : Tab2) (t : Int) (w : World) (h : TabAt w ty T o cs hv wv s) (hl : s.2.length ≤ 1000) :
    Calls Tryd.prog 34 #[.pointer (some ⟨T, o, none⟩), .int .i64 t] w fun e w' => ∃ n : Int, e = .returned (.int .i64 n) ∧ decide (0 ≤ n) = waitsB s.2 t ∧ w' = w := by
  have c1 := h.c1
  obtain ⟨ad, c, rfl, -⟩ := own_slice3 h.ow
  have HR : Hid (w.ownsRow (T + 1) 25 3 (.slice ad s.2.length c) s.2.length (flat s.2)) := h.ow
  obtain ⟨l, hs⟩ : ∃ l, s.2 = l := ⟨_, rfl⟩
  rw [hs] at HR c1 hl ⊢
  clear h hs
  go_enter Tryd.func34, Tryd.ntmps34
  go_wp2_with fail
  go_loopw [5] (fun v5 wr => ∃ k : Nat, k ≤ l.length ∧ v5 = .int .i64 k ∧ (∀ j, j < k → (opAt l j).1 ≠ t) ∧ wr = w) (fun v5 _ => l.length - (intOf v5).toNat)
  case atStart => exact ⟨0, Nat.zero_le _, rfl, fun j hj => absurd hj (by omega), rfl⟩
  case round =>
    obtain ⟨k, hk, rfl, hno, rfl⟩ := hrel
    have HNO : Hid (∀ j, j < k → (opAt l j).1 ≠ t) := hno
    clear hno
    by_cases hlt : k < l.length
    · have hlt' : (k : Int) < (l.length : Int) := by omega
      obtain ⟨g, c2, hv2, -, -, -, e0, -, -⟩ := row_cells HR.out rfl hlt
      simp only [Value.slice.injEq] at hv2
      obtain ⟨rfl, -, rfl⟩ := hv2
      obtain ⟨t2, ht2⟩ : ∃ t2, (opAt l k).1 = t2 := ⟨_, rfl⟩
      rw [ht2] at e0
      have HT : Hid ((opAt l k).1 = t2) := ht2
      clear ht2
      by_cases he : t2 = t
      · subst he
        go_wp2_with fail
        go_ret
        exact ⟨_, rfl, by rw [waits_hit hlt HT.out]; simp, rfl⟩
      · have he' : (t2 == t) = false := by simpa using he
        go_wp2_with fail
        go_roundw
        case rel => exact ⟨k + 1, by omega, by go_num, fun j hj => by
          rcases Nat.lt_or_ge j k with h | h
          · exact HNO.out j h
          · rw [show j = k by omega, HT.out]; exact he, trivial⟩
        case measure => simp [intOf]; omega
    · have hlt' : ¬ (k : Int) < (l.length : Int) := by omega
      obtain rfl : k = l.length := by omega
      go_wp2_with fail
      go_ret
      exact ⟨_, rfl, by rw [waits_take HNO.out]; rfl, rfl⟩
set_option maxHeartbeats 8000000 in
set_option maxRecDepth 100000 in
theorem hold_any (ty : TypeId) (T o : Nat) (cs : Array Value) (hv wv : Value) (s : Tab2) (x : Op3) (w : World) (h : TabAt w ty T o cs hv wv s) (hl : s.1.length ≤ 1000) :
    Calls Tryd.prog 28 #[.pointer (some ⟨T, o, none⟩), lkV x] w fun e w' => e = .returned (.tuple #[]) ∧ TabStep w w' ty T o cs hv wv (holdL s.1 x, s.2) := by
  obtain ⟨t, i, m⟩ := x
  obtain ⟨ad, c, rfl, -⟩ := own_slice3 h.oh
  obtain ⟨i0, hi, hz0, hs0, hy0⟩ := info_parts infoLock
  have HI : Hid (Tryd.prog.info? 25 = some i0 ∧ i0.zero = some (.agg #[.int .i64 0, .int .i64 0, .int .i64 0]) ∧ i0.size = 3 ∧ i0.bytes = 24) := ⟨hi, hz0, hs0, hy0⟩
  have HT : Hid (TabAt w ty T o cs (.slice ad s.1.length c) wv s) := h
  have hTl := h.lt
  obtain ⟨n, hn⟩ : ∃ n, s.1.length = n := ⟨_, rfl⟩
  rw [hn] at HT hl ⊢
  have HN : Hid (s.1.length = n) := hn
  clear h hi hz0 hs0 hy0 hn
  go_enter Tryd.func28, Tryd.ntmps28
  go_upto_region 1 with (fail)
  obtain ⟨W, hW⟩ : ∃ W, W = w.alloc (.cells #[.int .i64 t, .int .i64 i, .int .i64 m] 25) := ⟨_, rfl⟩
  rw [← hW]
  have p0 : W.cell? ⟨w.heap.size, 0, none⟩ = some (.int .i64 t) := by rw [hW]; simp
  have p1 : W.cell? ⟨w.heap.size, 1, none⟩ = some (.int .i64 i) := by rw [hW]; simp
  have p2 : W.cell? ⟨w.heap.size, 2, none⟩ = some (.int .i64 m) := by rw [hW]; simp
  have hbW : Below w.heap.size w W := by rw [hW]; exact (Below.refl _ w).alloc (Nat.le_refl _) _
  have HTW : Hid (TabAt W ty T o cs (.slice ad n c) wv s) := HT.out.below hbW
  have HBW : Hid (Below w.heap.size w W) := hbW
  have hPW : w.heap.size < W.heap.size := World.block_lt_of_cell? W _ p0
  obtain ⟨P, hP⟩ : ∃ P, P = w.heap.size := ⟨_, rfl⟩
  rw [← hP] at p0 p1 p2 hPW hTl ⊢
  have HP : Hid (P = w.heap.size) := hP
  clear hW hbW hP
  go_wp2_with fail
  go_loopw [4] (fun v4 wr => ∃ (k : Nat) (y : Later W.heap.size W), k ≤ n ∧ v4 = .int .i64 k ∧ (∀ j, j < k → likeL (opAt s.1 j) (t, i, m) = false) ∧ wr = y.W) (fun v4 _ => n - (intOf v4).toNat)
  case atStart => exact ⟨0, ⟨W, Below.refl _ _⟩, Nat.zero_le _, rfl, fun j hj => absurd hj (by omega), rfl⟩
  case round =>
    obtain ⟨k, ⟨V, hbV⟩, hk, rfl, hno, hwr⟩ := hrel
    simp only at hwr
    subst hwr
    have HNO : Hid (∀ j, j < k → likeL (opAt s.1 j) (t, i, m) = false) := hno
    have HTV : Hid (TabAt wr ty T o cs (.slice ad n c) wv s) := HTW.out.below hbV
    have c0 := HTV.out.c0
    have z0 := HTV.out.thaw o
    have q0 := (hbV.cell (p := ⟨P, 0, none⟩) hPW).trans p0
    have q1 := (hbV.cell (p := ⟨P, 1, none⟩) hPW).trans p1
    have q2 := (hbV.cell (p := ⟨P, 2, none⟩) hPW).trans p2
    have HBV : Hid (Below W.heap.size W wr) := hbV
    have hsV := hbV.size
    clear hno hbV p0 p1 p2
    by_cases hlt : k < n
    · have hlt' : (k : Int) < (n : Int) := by omega
      have hohn : wr.ownsRow (T + 1) 25 3 (.slice ad n c) n (flat s.1) := by have := HTV.out.oh; rw [HN.out] at this; exact this
      obtain ⟨g, c2, hv2, hTg, hgl, hfz, e0, e1, e2⟩ := row_cells hohn HN.out hlt
      simp only [Value.slice.injEq] at hv2
      obtain ⟨rfl, -, rfl⟩ := hv2
      have HOH : Hid (wr.ownsRow (T + 1) 25 3 (.slice (some ⟨g, 0, none⟩) n c) n (flat s.1)) := hohn
      obtain ⟨⟨t2, i2, m2⟩, ho⟩ : ∃ o : Op3, opAt s.1 k = o := ⟨_, rfl⟩
      have HO : Hid (opAt s.1 k = (t2, i2, m2)) := ho
      rw [ho] at e0 e1 e2
      simp only at e0 e1 e2
      clear ho hohn
      by_cases h1 : t2 = t
      · subst h1
        by_cases h2 : i2 = i
        · subst h2
          have HH : Hid (holdL s.1 (t2, i2, m) = s.1.set k (t2, i2, m)) := holdL_at (by rw [HN.out]; exact hlt) HNO.out (by rw [HO.out]; simp [likeL])
          have y0 := hfz (k * 3)
          have y1 := hfz (k * 3 + 1)
          have y2 := hfz (k * 3 + 2)
          clear hfz
          go_wp2_with fail
          go_quiet (fail)
          go_wp2_with fail
          go_region
          have hbq : Below wr.heap.size wr (wr.drewN (nq + 1)) := below_drewN (Below.refl _ _) _
          have hstep := tab_put (HTV.out.below hbq) HN.out hlt (t2, i2, m)
          go_wp2_with fail
          refine bodyPost_ret (results_none Tryd.results28 _ _ _) rfl ⟨rfl, ?_⟩
          rw [HH.out]
          exact TabStep.later (Turns.of_below (HBW.out.trans ((HBV.out.mono (by have := HP.out; omega)).trans (hbq.mono (by have := HP.out; omega))))) hstep
        · have h2' : (i2 == i) = false := by simpa using h2
          have HH : Hid (likeL (opAt s.1 k) (t2, i, m) = false) := by show likeL _ _ = false; rw [HO.out]; simp [likeL, h2]
          clear hfz h2
          go_wp2_with fail
          go_quiet (fail)
          go_wp2_with fail
          go_roundw
          case rel => exact ⟨k + 1, ⟨_, below_drewN HBV.out _⟩, by omega, by go_num, fun j hj => by
            rcases Nat.lt_or_ge j k with h | h
            · exact HNO.out j h
            · rw [show j = k by omega]; exact HH.out, rfl⟩
          case measure => simp [intOf]; omega
      · have h1' : (t2 == t) = false := by simpa using h1
        have HH : Hid (likeL (opAt s.1 k) (t, i, m) = false) := by show likeL _ _ = false; rw [HO.out]; simp [likeL, h1]
        clear hfz h1
        go_wp2_with fail
        go_quiet (fail)
        go_wp2_with fail
        go_roundw
        case rel => exact ⟨k + 1, ⟨_, below_drewN HBV.out _⟩, by omega, by go_num, fun j hj => by
          rcases Nat.lt_or_ge j k with h | h
          · exact HNO.out j h
          · rw [show j = k by omega]; exact HH.out, rfl⟩
        case measure => simp [intOf]; omega
    · have hlt' : ¬ (k : Int) < (n : Int) := by omega
      obtain rfl : k = n := by omega
      have HH : Hid (holdL s.1 (t, i, m) = s.1 ++ [(t, i, m)]) := holdL_end fun j hj => HNO.out j (by rw [HN.out] at hj; exact hj)
      have HOH : Hid (wr.ownsRow (T + 1) 25 3 (.slice ad k c) k (flat s.1)) := by show World.ownsRow _ _ _ _ _ _ _; have := HTV.out.oh; rw [HN.out] at this; exact this
      have hPV : P < wr.heap.size := by omega
      have hTV : T < wr.heap.size := by omega
      have hc0 : ∀ ob : Obj, (wr.alloc ob).cell? ⟨T, o, none⟩ = some (.slice ad k c) := fun ob => by rw [World.cell?_alloc_lt _ _ ⟨T, o, none⟩ hTV]; exact c0
      have hTW1 : T + 1 ≤ wr.heap.size := by omega
      go_wp2_with fail
      go_region_law (refine step_append_apart rfl (.tmp 49) (.tmp 51) 22 rfl (T + 1) 25 i0 (.agg #[.int .i64 0, .int .i64 0, .int .i64 0]) 3 24 Tryd.underlying22 HI.out.1 HI.out.2.1 HI.out.2.2.1 HI.out.2.2.2 rfl (by decide) (.slice ad k c) k (flat s.1) (by simp [Act.eval]) (HOH.out.alloc _) ⟨wr.heap.size, 0, none⟩ 1 1 (flat [(t, i, m)]) (by simp [Act.eval]) rfl (lock_new wr (t, i, m) _) (flat_one _) (by unfold maxLen; omega) (by omega) (by simp; omega) ?_; intro v2 w2 hown2 hgr2 hap2; obtain ⟨ad2, c2, rfl, -⟩ := own_slice3 hown2; have HA2 : Hid (∀ g, (Value.slice ad2 (k + 1) c2).ownBlock = some g → (Value.slice ad k c).ownBlock = some g ∨ wr.heap.size ≤ g) := apart_later hap2; clear hap2; have HTU : Hid (Turns (fun j => (Value.slice ad k c).ownBlock = some j) wr w2) := turn_grown hgr2; have HO2 : Hid (w2.ownsRow (T + 1) 25 3 (.slice ad2 (k + 1) c2) (k + 1) (flat s.1 ++ flat [(t, i, m)])) := hown2; have HG2 : Hid ((wr.drew.alloc (.cells #[.int .i64 t, .int .i64 i, .int .i64 m] 25)).grownBy w2 (Value.slice ad k c).ownBlock) := hgr2; have g0 : w2.cell? ⟨T, o, none⟩ = some (.slice ad k c) := (HTU.out.cell (p := ⟨T, o, none⟩) hTV (fun e => by have := (HOH.out.lt T e).1; omega)).trans c0; have g1 : w2.frozen? ⟨T, o, none⟩ = false := (World.frozen?_of_block (a := ⟨T, o, none⟩) (HTU.out.block T hTV (fun e => by have := (HOH.out.lt T e).1; omega))).trans z0; clear hown2 hgr2)
      all_goals
        have hstep : TabStep wr (w2.setCell ⟨T, o, none⟩ (.slice ad2 (k + 1) c2)) ty T o cs (.slice ad k c) wv (s.1 ++ [(t, i, m)], s.2) := tab_set0 HTV.out HTU.out (by rw [List.length_append, HN.out, flat_append]; exact HO2.out) HA2.out
        go_wp2_with fail
        go_end0
        refine ⟨rfl, ?_⟩
        rw [HH.out]
        exact TabStep.later (Turns.of_below (HBW.out.trans (HBV.out.mono (by have := HP.out; omega)))) hstep
end Go.Proofs.YtjaeaanpbdmfgaeDoor
