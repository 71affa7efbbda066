/-
  PROVED HERE: laneref1.Table's method Ask, over a table in memory. Of the blocks that there were, only the table's own turn.
  Conditions: the lists are short.
-/
import Derived.Test.YtjaeaanpbdmfgaeDoorRefLocks1
namespace Go.Proofs.YtjaeaanpbdmfgaeDoor
open Go.RowKit

theorem hasL_hit {l : List Op3} {x : Op3} {k : Nat} (hk : k < l.length) (h : (opAt l k).1 = x.1 ∧ (opAt l k).2.1 = x.2.1 ∧ x.2.2 ≤ (opAt l k).2.2) : hasL l x = true := by
  simp only [hasL, List.any_eq_true]
  refine ⟨_, opAt_mem hk, ?_⟩
  simp [h.1, h.2.1, h.2.2]
theorem hasL_none {l : List Op3} {x : Op3} (h : ∀ k, k < l.length → ¬ ((opAt l k).1 = x.1 ∧ (opAt l k).2.1 = x.2.1 ∧ x.2.2 ≤ (opAt l k).2.2)) : hasL l x = false := by
  cases hh : hasL l x with
  | false => rfl
  | true =>
    simp only [hasL, List.any_eq_true, Bool.and_eq_true, beq_iff_eq, decide_eq_true_eq] at hh
    obtain ⟨y, hy, h1, h2, h3⟩ := hh
    obtain ⟨i, hi, rfl⟩ := List.mem_iff_getElem.1 hy
    have e : opAt l i = l[i] := by simp [opAt, List.getD, List.getElem?_eq_getElem hi]
    exact absurd ⟨by rw [e]; exact h1, by rw [e]; exact h2, by rw [e]; exact h3⟩ (h i hi)
/-- A table as a world has it, whatever was made since. -/
theorem TabAt.later {w w1 : World} {B : Nat} {ty : TypeId} {T o : Nat} {cs : Array Value} {hv wv : Value} {s : Tab2} (h : TabAt w ty T o cs hv wv s) (hb : Below B w w1) (hB : w.heap.size ≤ B) : TabAt w1 ty T o cs hv wv s := h.below (hb.mono hB)
set_option maxHeartbeats 16000000 in
set_option maxRecDepth 100000 in
theorem refAsk_any (ty : TypeId) (T o : Nat) (cs : Array Value) (hv wv : Value) (s : Tab2) (x : Op3) (w : World) (h : TabAt w ty T o cs hv wv s) (hl1 : s.1.length ≤ 900) (hl2 : s.2.length ≤ 900) :
    Calls Tryd.prog 12 #[.pointer (some ⟨T, o, none⟩), lkV x] w fun e w' => e = .returned (.tuple #[.bool (askT s x).1.1, .int .i64 (askT s x).1.2]) ∧ TabStep w w' ty T o cs hv wv (askT s x).2 := by
  obtain ⟨t, i, m⟩ := x
  obtain ⟨i0, hi, hz0, hs0, hy0⟩ := info_parts infoLock
  have HI : Hid (Tryd.prog.info? 25 = some i0 ∧ i0.zero = some (.agg #[.int .i64 0, .int .i64 0, .int .i64 0]) ∧ i0.size = 3 ∧ i0.bytes = 24) := ⟨hi, hz0, hs0, hy0⟩
  obtain ⟨ad, c, rfl, -⟩ := own_slice3 h.oh
  obtain ⟨wad, wc, rfl, -⟩ := own_slice3 h.ow
  obtain ⟨n1, hn1⟩ : ∃ n, s.1.length = n := ⟨_, rfl⟩
  obtain ⟨ln, hln⟩ : ∃ n, s.2.length = n := ⟨_, rfl⟩
  rw [hn1] at h hl1 ⊢
  rw [hln] at h hl2 ⊢
  have HN1 : Hid (s.1.length = n1) := hn1
  have HLN : Hid (s.2.length = ln) := hln
  have HT : Hid (TabAt w ty T o cs (.slice ad n1 c) (.slice wad ln wc) s) := h
  have hTl := h.lt
  clear h hi hz0 hs0 hy0 hn1 hln
  go_enter Tryd.func12, Tryd.ntmps12
  go_upto_region 1 with (fail)
  obtain ⟨W, hW⟩ : ∃ W, W = w.alloc (.cells #[.int .i64 t, .int .i64 i, .int .i64 m] 25) := ⟨_, rfl⟩
  rw [← hW]
  have p0 : W.cell? ⟨w.heap.size, 0, none⟩ = some (.int .i64 t) := by rw [hW]; simp
  have p1 : W.cell? ⟨w.heap.size, 1, none⟩ = some (.int .i64 i) := by rw [hW]; simp
  have p2 : W.cell? ⟨w.heap.size, 2, none⟩ = some (.int .i64 m) := by rw [hW]; simp
  have hbW : Below w.heap.size w W := by rw [hW]; exact (Below.refl _ w).alloc (Nat.le_refl _) _
  have HTW : Hid (TabAt W ty T o cs (.slice ad n1 c) (.slice wad ln wc) s) := HT.out.below hbW
  have HBW : Hid (Below w.heap.size w W) := hbW
  have hPW : w.heap.size < W.heap.size := World.block_lt_of_cell? W _ p0
  obtain ⟨P, hP⟩ : ∃ P, P = w.heap.size := ⟨_, rfl⟩
  rw [← hP] at p0 p1 p2 hPW hTl ⊢
  have HP : Hid (P = w.heap.size) := hP
  clear hW hbW hP
  go_wp2_with fail
  refine (lock_raw t i m W).mono ?_
  rintro e w1 ⟨rfl, hb1⟩
  have HT1 : Hid (TabAt w1 ty T o cs (.slice ad n1 c) (.slice wad ln wc) s) := HTW.out.below hb1
  have HB1 : Hid (Below w.heap.size w w1) := HBW.out.trans (hb1.mono (by have := HP.out; omega))
  have q0 := (hb1.cell (p := ⟨P, 0, none⟩) hPW).trans p0
  have q1 := (hb1.cell (p := ⟨P, 1, none⟩) hPW).trans p1
  have q2 := (hb1.cell (p := ⟨P, 2, none⟩) hPW).trans p2
  have hP1 : P < w1.heap.size := World.block_lt_of_cell? w1 _ q0
  clear hb1 p0 p1 p2 hPW HTW HBW
  cases hlk : isLock (t, i, m) with
  | false =>
    have HA : Hid (askT s (t, i, m) = ((false, 1), s)) := by show askT s _ = _; unfold askT; rw [if_pos hlk]
    clear hlk
    go_wp2_with fail
    go_ret2
    refine ⟨by rw [HA.out]; rfl, ?_⟩
    rw [HA.out]
    exact TabStep.same HT.out HB1.out
  | true =>
    have HLK : Hid (isLock (t, i, m) = true) := hlk
    clear hlk
    go_wp2_with fail
    refine (waiting_any ty T o cs _ _ s t w1 HT1.out (by rw [HLN.out]; omega)).mono ?_
    rintro e w2 ⟨n, rfl, hn, hw2⟩
    rw [hw2]
    clear hw2 w2
    cases hwb : waitsB s.2 t with
    | true =>
      have HA : Hid (askT s (t, i, m) = ((false, 7), s)) := by show askT s _ = _; unfold askT; rw [if_neg (by rw [HLK.out]; decide), if_pos hwb]
      rw [hwb] at hn
      clear hwb
      go_wp2_with fail
      go_ret2
      refine ⟨by rw [HA.out]; rfl, ?_⟩
      rw [HA.out]
      exact TabStep.same HT.out HB1.out
    | false =>
      have HWB : Hid (waitsB s.2 t = false) := hwb
      rw [hwb] at hn
      clear hwb
      go_wp2_with fail
      go_loopw [7] (fun v7 wr => ∃ (k : Nat) (y : Later w1.heap.size w1), k ≤ n1 ∧ v7 = .int .i64 k ∧ (∀ j, j < k → ¬ ((opAt s.1 j).1 = t ∧ (opAt s.1 j).2.1 = i ∧ m ≤ (opAt s.1 j).2.2)) ∧ wr = y.W) (fun v7 _ => n1 - (intOf v7).toNat)
      case atStart => exact ⟨0, ⟨w1, Below.refl _ _⟩, Nat.zero_le _, rfl, fun j hj => absurd hj (by omega), rfl⟩
      case round =>
        obtain ⟨k, ⟨V, hbV⟩, hk, rfl, hno, hwr⟩ := hrel
        simp only at hwr
        subst hwr
        have HNO : Hid (∀ j, j < k → ¬ ((opAt s.1 j).1 = t ∧ (opAt s.1 j).2.1 = i ∧ m ≤ (opAt s.1 j).2.2)) := hno
        have HTV : Hid (TabAt wr ty T o cs (.slice ad n1 c) (.slice wad ln wc) s) := HT1.out.below hbV
        have HOV : Hid (wr.ownsRow (T + 1) 25 3 (.slice ad n1 c) n1 (flat s.1)) := by show World.ownsRow _ _ _ _ _ _ _; have := HTV.out.oh; rw [HN1.out] at this; exact this
        have c0 := HTV.out.c0
        have r0 := (hbV.cell (p := ⟨P, 0, none⟩) hP1).trans q0
        have r1 := (hbV.cell (p := ⟨P, 1, none⟩) hP1).trans q1
        have r2 := (hbV.cell (p := ⟨P, 2, none⟩) hP1).trans q2
        have HBV : Hid (Below w1.heap.size w1 wr) := hbV
        have hsV := hbV.size
        clear hno hbV q0 q1 q2 hn
        by_cases hlt : k < n1
        · have hlt' : (k : Int) < (n1 : Int) := by omega
          obtain ⟨g, c2, hv2, -, -, -, e0, e1, e2⟩ := row_cells HOV.out HN1.out hlt
          simp only [Value.slice.injEq] at hv2
          obtain ⟨rfl, -, rfl⟩ := hv2
          obtain ⟨⟨t2, i2, m2⟩, ho⟩ : ∃ o : Op3, opAt s.1 k = o := ⟨_, rfl⟩
          have HO : Hid (opAt s.1 k = (t2, i2, m2)) := ho
          rw [ho] at e0 e1 e2
          simp only at e0 e1 e2
          clear ho
          by_cases h1 : t2 = t
          · subst h1
            by_cases h2 : i2 = i
            · subst h2
              by_cases h3 : m ≤ m2
              · have HA : Hid (askT s (t2, i2, m) = ((true, 0), s)) := by
                  show askT s _ = _
                  unfold askT
                  rw [if_neg (by rw [HLK.out]; decide), if_neg (by rw [HWB.out]; decide), if_pos (hasL_hit (by rw [HN1.out]; exact hlt) (by rw [HO.out]; exact ⟨rfl, rfl, h3⟩))]
                have h3' : decide (m ≤ m2) = true := by simpa using h3
                go_wp2_with fail
                go_quiet (fail)
                go_wp2_with fail
                go_ret2
                refine ⟨by rw [HA.out]; rfl, ?_⟩
                rw [HA.out]
                exact TabStep.same HT.out (below_drewN (HB1.out.trans (HBV.out.mono (by have := HP.out; omega))) _)
              · have HH : Hid (¬ ((opAt s.1 k).1 = t2 ∧ (opAt s.1 k).2.1 = i2 ∧ m ≤ (opAt s.1 k).2.2)) := by show ¬ _; rw [HO.out]; exact fun hh => h3 hh.2.2
                have h3' : decide (m ≤ m2) = false := by simpa using h3
                go_wp2_with fail
                go_quiet (fail)
                go_wp2_with fail
                go_roundw
                case rel => exact ⟨k + 1, ⟨_, below_drewN HBV.out _⟩, by omega, by go_num, fun j hj => by
                  rcases Nat.lt_or_ge j k with h | h
                  · exact HNO.out j h
                  · rw [show j = k by omega]; exact HH.out, rfl⟩
                case measure => simp [intOf]; omega
            · have HH : Hid (¬ ((opAt s.1 k).1 = t2 ∧ (opAt s.1 k).2.1 = i ∧ m ≤ (opAt s.1 k).2.2)) := by show ¬ _; rw [HO.out]; exact fun hh => h2 hh.2.1
              have h2' : (i2 == i) = false := by simpa using h2
              clear h2
              go_wp2_with fail
              go_quiet (fail)
              go_wp2_with fail
              go_roundw
              case rel => exact ⟨k + 1, ⟨_, below_drewN HBV.out _⟩, by omega, by go_num, fun j hj => by
                rcases Nat.lt_or_ge j k with h | h
                · exact HNO.out j h
                · rw [show j = k by omega]; exact HH.out, rfl⟩
              case measure => simp [intOf]; omega
          · have HH : Hid (¬ ((opAt s.1 k).1 = t ∧ (opAt s.1 k).2.1 = i ∧ m ≤ (opAt s.1 k).2.2)) := by show ¬ _; rw [HO.out]; exact fun hh => h1 hh.1
            have h1' : (t2 == t) = false := by simpa using h1
            clear h1
            go_wp2_with fail
            go_quiet (fail)
            go_wp2_with fail
            go_roundw
            case rel => exact ⟨k + 1, ⟨_, below_drewN HBV.out _⟩, by omega, by go_num, fun j hj => by
              rcases Nat.lt_or_ge j k with h | h
              · exact HNO.out j h
              · rw [show j = k by omega]; exact HH.out, rfl⟩
            case measure => simp [intOf]; omega
        · have hlt' : ¬ (k : Int) < (n1 : Int) := by omega
          obtain rfl : n1 = k := by omega
          have HNH : Hid (hasL s.1 (t, i, m) = false) := hasL_none (by rw [HN1.out]; exact HNO.out)
          obtain ⟨B, hB1, hB2⟩ : ∃ B, B ≤ wr.heap.size ∧ wr.heap.size ≤ B := ⟨_, Nat.le_refl _, Nat.le_refl _⟩
          have hne : Nonempty (Later B wr) := ⟨⟨wr, Below.refl _ _⟩⟩
          have HC : Hid (∀ y : Later B wr, Calls Tryd.prog 27 #[.slice ad n1 c, .agg #[.int .i64 t, .int .i64 i, .int .i64 m]] y.W fun e w' => e = .returned (.bool (clearL s.1 (t, i, m))) ∧ ∃ z : Later B wr, w' = z.W) := fun y => Later.at y hB1 (clear_any s.1 _ (t, i, m) y.W ((HTV.out.later y.h hB2).held) (by rw [HN1.out]; omega))
          have g0 : ∀ y : Later B wr, y.W.cell? ⟨T, o, none⟩ = some (.slice ad n1 c) := fun y => (HTV.out.later y.h hB2).c0
          have g1 : ∀ y : Later B wr, y.W.cell? ⟨P, 0, none⟩ = some (.int .i64 t) := fun y => (y.h.cell (p := ⟨P, 0, none⟩) (by simp; omega)).trans r0
          have g2 : ∀ y : Later B wr, y.W.cell? ⟨P, 1, none⟩ = some (.int .i64 i) := fun y => (y.h.cell (p := ⟨P, 1, none⟩) (by simp; omega)).trans r1
          have g3 : ∀ y : Later B wr, y.W.cell? ⟨P, 2, none⟩ = some (.int .i64 m) := fun y => (y.h.cell (p := ⟨P, 2, none⟩) (by simp; omega)).trans r2
          obtain ⟨b1, hb1⟩ : ∃ b1, clearL s.1 (t, i, m) = b1 := ⟨_, rfl⟩
          rw [hb1] at HC
          have HBB1 : Hid (clearL s.1 (t, i, m) = b1) := hb1
          have HGG : Hid (∀ y : Later B wr, y.W.cell? ⟨P, 0, none⟩ = some (.int .i64 t) ∧ y.W.cell? ⟨P, 1, none⟩ = some (.int .i64 i) ∧ y.W.cell? ⟨P, 2, none⟩ = some (.int .i64 m)) := fun y => ⟨g1 y, g2 y, g3 y⟩
          clear hb1 r0 r1 r2
          go_wp2_with fail
          refine region_later B (by kernel_rfl) (by kernel_rfl) ?_
          repeat (first | go_big_quiet_skip | (go_big_quiet_want; go_big_quiet_op; first | go_big_quiet_on | (refine ⟨_, fun y => HC.out y, ?_⟩; go_big_quiet_on)))
          refine wpQuiet_nil ?_
          intro W2 hW2
          obtain ⟨y, hy⟩ := hW2
          obtain ⟨r0, r1, r2⟩ := HGG.out y
          rw [← hy] at r0 r1 r2
          have HBX : Hid (Below B wr W2) := by show Below _ _ _; rw [hy]; exact y.h
          have HTX : Hid (TabAt W2 ty T o cs (.slice ad n1 c) (.slice wad ln wc) s) := by show TabAt _ _ _ _ _ _ _ _; rw [hy]; exact HTV.out.later y.h hB2
          have hPX : P < W2.heap.size := World.block_lt_of_cell? W2 _ r0
          have hBX : wr.heap.size ≤ W2.heap.size := HBX.out.size
          clear hy y g0 g1 g2 g3 HC HGG hne
          obtain ⟨C, hC1, hC2⟩ : ∃ C, C ≤ W2.heap.size ∧ W2.heap.size ≤ C := ⟨_, Nat.le_refl _, Nat.le_refl _⟩
          have hne : Nonempty (Later C W2) := ⟨⟨W2, Below.refl _ _⟩⟩
          have HC : Hid (∀ y : Later C W2, Calls Tryd.prog 27 #[.slice wad ln wc, .agg #[.int .i64 t, .int .i64 i, .int .i64 m]] y.W fun e w' => e = .returned (.bool (clearL s.2 (t, i, m))) ∧ ∃ z : Later C W2, w' = z.W) := fun y => Later.at y hC1 (clear_any s.2 _ (t, i, m) y.W ((HTX.out.later y.h hC2).waits) (by rw [HLN.out]; omega))
          have g0 : ∀ y : Later C W2, y.W.cell? ⟨T, o + 1, none⟩ = some (.slice wad ln wc) := fun y => (HTX.out.later y.h hC2).c1
          have g1 : ∀ y : Later C W2, y.W.cell? ⟨P, 0, none⟩ = some (.int .i64 t) := fun y => (y.h.cell (p := ⟨P, 0, none⟩) (by simp; omega)).trans r0
          have g2 : ∀ y : Later C W2, y.W.cell? ⟨P, 1, none⟩ = some (.int .i64 i) := fun y => (y.h.cell (p := ⟨P, 1, none⟩) (by simp; omega)).trans r1
          have g3 : ∀ y : Later C W2, y.W.cell? ⟨P, 2, none⟩ = some (.int .i64 m) := fun y => (y.h.cell (p := ⟨P, 2, none⟩) (by simp; omega)).trans r2
          obtain ⟨b2, hb2⟩ : ∃ b2, clearL s.2 (t, i, m) = b2 := ⟨_, rfl⟩
          rw [hb2] at HC
          have HBB2 : Hid (clearL s.2 (t, i, m) = b2) := hb2
          have HGG : Hid (∀ y : Later C W2, y.W.cell? ⟨P, 0, none⟩ = some (.int .i64 t) ∧ y.W.cell? ⟨P, 1, none⟩ = some (.int .i64 i) ∧ y.W.cell? ⟨P, 2, none⟩ = some (.int .i64 m)) := fun y => ⟨g1 y, g2 y, g3 y⟩
          clear hb2 r0 r1 r2
          go_wp2_with fail
          refine region_later C (by kernel_rfl) (by kernel_rfl) ?_
          repeat (first | go_big_quiet_skip | (go_big_quiet_want; go_big_quiet_op; first | go_big_quiet_on | (refine ⟨_, fun y => HC.out y, ?_⟩; go_big_quiet_on)))
          refine wpQuiet_nil ?_
          intro W3 hW3
          obtain ⟨y, hy⟩ := hW3
          obtain ⟨r0, r1, r2⟩ := HGG.out y
          rw [← hy] at r0 r1 r2
          have HBY : Hid (Below w.heap.size w W3) := by
            show Below _ _ _
            rw [hy]
            exact (HB1.out.trans (HBV.out.mono (by have := HP.out; omega))).trans ((HBX.out.mono (by have := HP.out; omega)).trans (y.h.mono (by have := HP.out; omega)))
          have HTY : Hid (TabAt W3 ty T o cs (.slice ad n1 c) (.slice wad ln wc) s) := by show TabAt _ _ _ _ _ _ _ _; rw [hy]; exact HTX.out.later y.h hC2
          have hPY : P < W3.heap.size := World.block_lt_of_cell? W3 _ r0
          clear hy y g0 g1 g2 g3 HC HGG hne hC1 hC2 hB1 hB2 HBX HTX HTV HBV c0 hBX hPX hsV hlt hlt' HOV
          by_cases hbb : (b1 && b2) = true
          · have hb1 : b1 = true := by revert hbb; cases b1 <;> simp
            have hb2 : b2 = true := by revert hbb; cases b1 <;> simp
            subst hb1
            subst hb2
            have HA : Hid (askT s (t, i, m) = ((true, 0), (holdL s.1 (t, i, m), s.2))) := by
              show askT s _ = _
              unfold askT
              rw [if_neg (by rw [HLK.out]; decide), if_neg (by rw [HWB.out]; decide), if_neg (by rw [HNH.out]; decide), if_pos (by rw [HBB1.out, HBB2.out]; rfl)]
            clear hbb
            go_wp2_with (go_at_call 28; refine (hold_any ty T o cs (.slice ad n1 c) (.slice wad ln wc) s (t, i, m) W3 HTY.out (by rw [HN1.out]; omega)).mono ?_; rintro e w4 ⟨rfl, hst⟩)
            go_ret2
            refine ⟨by rw [HA.out]; rfl, ?_⟩
            rw [HA.out]
            exact TabStep.later (Turns.of_below HBY.out) hst
          · have hbb' : (b1 && b2) = false := by simpa using hbb
            have HA : Hid (askT s (t, i, m) = ((false, 0), (s.1, s.2 ++ [(t, i, m)]))) := by
              show askT s _ = _
              unfold askT
              rw [if_neg (by rw [HLK.out]; decide), if_neg (by rw [HWB.out]; decide), if_neg (by rw [HNH.out]; decide), if_neg (by rw [HBB1.out, HBB2.out]; exact hbb)]
            have c1 := HTY.out.c1
            have z1 := HTY.out.thaw (o + 1)
            have hTY := HTY.out.lt
            have HOW : Hid (W3.ownsRow (T + 1) 25 3 (.slice wad ln wc) ln (flat s.2)) := by show World.ownsRow _ _ _ _ _ _ _; have := HTY.out.ow; rw [HLN.out] at this; exact this
            have hc1 : ∀ ob : Obj, (W3.alloc ob).cell? ⟨T, o + 1, none⟩ = some (.slice wad ln wc) := fun ob => by rw [World.cell?_alloc_lt _ _ ⟨T, o + 1, none⟩ hTY]; exact c1
            have hTY1 : T + 1 ≤ W3.heap.size := by omega
            have HG : Hid (∀ v2 w2, w2.ownsRow (T + 1) 25 3 v2 (ln + 1) (flat s.2 ++ flat [(t, i, m)]) → (W3.drew.alloc (.cells #[.int .i64 t, .int .i64 i, .int .i64 m] 25)).grownBy w2 (Value.slice wad ln wc).ownBlock → (∀ g, v2.ownBlock = some g → (Value.slice wad ln wc).ownBlock = some g ∨ (W3.drew.alloc (.cells #[.int .i64 t, .int .i64 i, .int .i64 m] 25)).heap.size ≤ g) → w2.cell? ⟨T, o + 1, none⟩ = some (.slice wad ln wc) ∧ w2.frozen? ⟨T, o + 1, none⟩ = false ∧ TabStep W3 (w2.setCell ⟨T, o + 1, none⟩ v2) ty T o cs (.slice ad n1 c) (.slice wad ln wc) (s.1, s.2 ++ [(t, i, m)])) := fun v2 w2 hown2 hgr2 hap2 => by
              have htu : Turns (fun j => (Value.slice wad ln wc).ownBlock = some j) W3 w2 := turn_grown hgr2
              have hnT : ¬ (Value.slice wad ln wc).ownBlock = some T := fun e => by have := (HOW.out.lt T e).1; omega
              refine ⟨(htu.cell (p := ⟨T, o + 1, none⟩) hTY hnT).trans c1, (World.frozen?_of_block (a := ⟨T, o + 1, none⟩) (htu.block T hTY hnT)).trans z1, tab_set1 HTY.out htu ?_ (apart_later hap2)⟩
              rw [List.length_append, HLN.out, flat_append]
              exact hown2
            have HB12 : Hid ((b1 && b2) = false) := hbb'
            clear z1 hbb hbb'
            cases b1 with
            | false =>
              go_wp2_with fail
              go_region_law (refine step_append_apart rfl (.tmp 88) (.tmp 90) 22 rfl (T + 1) 25 i0 (.agg #[.int .i64 0, .int .i64 0, .int .i64 0]) 3 24 Tryd.underlying22 HI.out.1 HI.out.2.1 HI.out.2.2.1 HI.out.2.2.2 rfl (by decide) (.slice wad ln wc) ln (flat s.2) (by simp [Act.eval]) (HOW.out.alloc _) ⟨W3.heap.size, 0, none⟩ 1 1 (flat [(t, i, m)]) (by simp [Act.eval]) rfl (lock_new W3 (t, i, m) _) (flat_one _) (by unfold maxLen; omega) (by omega) (by simp; omega) ?_; intro v2 w2 hown2 hgr2 hap2; obtain ⟨k0, k1, k2⟩ := HG.out v2 w2 hown2 hgr2 hap2; clear hap2 hgr2; obtain ⟨ad2, c2, rfl, -⟩ := own_slice3 hown2; have HK2 : Hid (TabStep W3 (w2.setCell ⟨T, o + 1, none⟩ (.slice ad2 (ln + 1) c2)) ty T o cs (.slice ad n1 c) (.slice wad ln wc) (s.1, s.2 ++ [(t, i, m)])) := k2; clear k2 hown2)
              all_goals
                go_wp2_with fail
                go_ret2
                refine ⟨by rw [HA.out]; rfl, ?_⟩
                rw [HA.out]
                exact TabStep.later (Turns.of_below HBY.out) HK2.out
            | true =>
              cases b2 with
              | true => exact absurd HB12.out (by decide)
              | false =>
                go_wp2_with fail
                go_region_law (refine step_append_apart rfl (.tmp 88) (.tmp 90) 22 rfl (T + 1) 25 i0 (.agg #[.int .i64 0, .int .i64 0, .int .i64 0]) 3 24 Tryd.underlying22 HI.out.1 HI.out.2.1 HI.out.2.2.1 HI.out.2.2.2 rfl (by decide) (.slice wad ln wc) ln (flat s.2) (by simp [Act.eval]) (HOW.out.alloc _) ⟨W3.heap.size, 0, none⟩ 1 1 (flat [(t, i, m)]) (by simp [Act.eval]) rfl (lock_new W3 (t, i, m) _) (flat_one _) (by unfold maxLen; omega) (by omega) (by simp; omega) ?_; intro v2 w2 hown2 hgr2 hap2; obtain ⟨k0, k1, k2⟩ := HG.out v2 w2 hown2 hgr2 hap2; clear hap2 hgr2; obtain ⟨ad2, c2, rfl, -⟩ := own_slice3 hown2; have HK2 : Hid (TabStep W3 (w2.setCell ⟨T, o + 1, none⟩ (.slice ad2 (ln + 1) c2)) ty T o cs (.slice ad n1 c) (.slice wad ln wc) (s.1, s.2 ++ [(t, i, m)])) := k2; clear k2 hown2)
                all_goals
                  go_wp2_with fail
                  go_ret2
                  refine ⟨by rw [HA.out]; rfl, ?_⟩
                  rw [HA.out]
                  exact TabStep.later (Turns.of_below HBY.out) HK2.out
end Go.Proofs.YtjaeaanpbdmfgaeDoor
