/-
  PROVED HERE: laneref1.Table's method For, over a table in memory: those with which a lock is at odds, rising. Old memory stays as it was.
  Conditions: the lists are short.
-/
import Derived.Test.YtjaeaanpbdmfgaeDoorRefLocks2
import Derived.Test.YtjaeaanpbdmfgaeDoorRefPut
namespace Go.Proofs.YtjaeaanpbdmfgaeDoor
open Go.RowKit

theorem take_snoc {l : List Op3} {k : Nat} (hk : k < l.length) : l.take (k + 1) = l.take k ++ [opAt l k] := by
  rw [List.take_succ_eq_append_getElem hk]
  have : l[k] = opAt l k := by simp [opAt, List.getD, List.getElem?_eq_getElem hk]
  rw [this]
theorem odds_hit {l : List Op3} {k : Nat} {x : Op3} (hk : k < l.length) (h : lodd (opAt l k) x = true) (o : List Int) : putsO o (oddsL (l.take (k + 1)) x) = putL (putsO o (oddsL (l.take k) x)) (opAt l k).1 := by
  rw [take_snoc hk]
  unfold oddsL putsO
  rw [List.filter_append, List.foldl_append]
  simp [h]
theorem odds_miss {l : List Op3} {k : Nat} {x : Op3} (hk : k < l.length) (h : lodd (opAt l k) x = false) (o : List Int) : putsO o (oddsL (l.take (k + 1)) x) = putsO o (oddsL (l.take k) x) := by
  rw [take_snoc hk]
  unfold oddsL putsO
  rw [List.filter_append, List.foldl_append]
  simp [h]
theorem putsO_len (l : List Op3) : ∀ o : List Int, (putsO o l).length ≤ o.length + l.length := by
  induction l with
  | nil => intro o; simp [putsO]
  | cons x r ih =>
    intro o
    have h := ih (putL o x.1)
    have h2 := putL_len o x.1
    unfold putsO at h ⊢
    rw [List.foldl_cons, List.length_cons]
    omega
theorem odds_len (l : List Op3) (k : Nat) (x : Op3) : (oddsL (l.take k) x).length ≤ k := by
  have h1 : (oddsL (l.take k) x).length ≤ (l.take k).length := List.length_filter_le _ _
  have h2 : (l.take k).length ≤ k := List.length_take_le _ _
  omega
theorem ahead_stop {l : List Op3} {t : Int} : ∀ {k : Nat}, k < l.length → (∀ j, j < k → (opAt l j).1 ≠ t) → (opAt l k).1 = t → aheadL l t = l.take k := by
  induction l with
  | nil => intro k hk; simp at hk
  | cons y r ih =>
    intro k hk hno he
    cases k with
    | zero =>
      have : y.1 = t := by simpa [opAt, List.getD] using he
      simp [aheadL, this]
    | succ k =>
      have h0 : y.1 ≠ t := by simpa [opAt, List.getD] using hno 0 (by omega)
      have h1 := ih (k := k) (by simpa using hk) (fun j hj => by simpa [opAt, List.getD] using hno (j + 1) (by omega)) (by simpa [opAt, List.getD] using he)
      unfold aheadL at h1 ⊢
      rw [List.takeWhile_cons, if_pos (by simpa using h0), h1, List.take_succ_cons]
theorem ahead_all {l : List Op3} {t : Int} (h : ∀ j, j < l.length → (opAt l j).1 ≠ t) : aheadL l t = l := by
  induction l with
  | nil => rfl
  | cons y r ih =>
    have h0 : y.1 ≠ t := by simpa [opAt, List.getD] using h 0 (by simp)
    have h1 := ih fun j hj => by simpa [opAt, List.getD] using h (j + 1) (by simpa using hj)
    unfold aheadL at h1 ⊢
    rw [List.takeWhile_cons, if_pos (by simpa using h0), h1]
/-- A list of numbers in a row of one's own. -/
def OwnI (w : World) (base : Nat) (v : Value) (l : List Int) : Prop := w.ownsRow base 3 1 v l.length (l.map (Value.int .i64))
theorem OwnI.below {w w1 : World} {base B : Nat} {v : Value} {l : List Int} (h : OwnI w base v l) (hb : Below B w w1) (hB : w.heap.size ≤ B) : OwnI w1 base v l := own_below h hb hB
theorem OwnI.ints {w : World} {base : Nat} {v : Value} {l : List Int} (h : OwnI w base v l) : IsInts w v l := isInts_own h rfl
theorem OwnI.less {w : World} {base base2 : Nat} {v : Value} {l : List Int} (h : OwnI w base v l) (hb : base2 ≤ base) : OwnI w base2 v l := own_less h hb
theorem ownI_nil (w : World) (base : Nat) : OwnI w base (.slice none 0 0) [] := World.ownsRow_nil _ _ _ _
set_option maxHeartbeats 16000000 in
set_option maxRecDepth 100000 in
theorem refFor_own (ty : TypeId) (T o : Nat) (cs : Array Value) (hv wv : Value) (s : Tab2) (x : Op3) (w : World) (h : TabAt w ty T o cs hv wv s) (hl1 : s.1.length ≤ 900) (hl2 : s.2.length ≤ 900) :
    Calls Tryd.prog 15 #[.pointer (some ⟨T, o, none⟩), lkV x] w fun e w' => ∃ v', e = .returned v' ∧ OwnI w' w.heap.size v' (forT s x) ∧ Below w.heap.size w w' := by
  obtain ⟨t, i, m⟩ := x
  obtain ⟨ad, c, rfl, -⟩ := own_slice3 h.oh
  obtain ⟨wad, wc, rfl, -⟩ := own_slice3 h.ow
  obtain ⟨n1, hn1⟩ : ∃ n, s.1.length = n := ⟨_, rfl⟩
  obtain ⟨ln, hln⟩ : ∃ n, s.2.length = n := ⟨_, rfl⟩
  rw [hn1] at h hl1
  rw [hln] at h hl2
  have HN1 : Hid (s.1.length = n1) := hn1
  have HLN : Hid (s.2.length = ln) := hln
  have HT : Hid (TabAt w ty T o cs (.slice ad n1 c) (.slice wad ln wc) s) := h
  have hTl := h.lt
  clear h hn1 hln
  go_enter Tryd.func15, Tryd.ntmps15
  go_wp2_with fail
  go_loopw [5, 6] (fun v5 v6 wr => ∃ k : Nat, k ≤ n1 ∧ v6 = .int .i64 k ∧ OwnI wr w.heap.size v5 (putsO [] (oddsL (s.1.take k) (t, i, m))) ∧ Below w.heap.size w wr ∧ wr.cell? ⟨w.heap.size, 0, none⟩ = some (.int .i64 t) ∧ wr.cell? ⟨w.heap.size, 1, none⟩ = some (.int .i64 i) ∧ wr.cell? ⟨w.heap.size, 2, none⟩ = some (.int .i64 m)) (fun _ v6 _ => n1 - (intOf v6).toNat)
  case atStart => exact ⟨0, Nat.zero_le _, rfl, ownI_nil _ _, (Below.refl _ w).alloc (Nat.le_refl _) _, by simp, by simp, by simp⟩
  case round =>
    obtain ⟨k, hk, rfl, hints, hbel, p0, p1, p2⟩ := hrel
    have HIN : Hid (OwnI wr w.heap.size u5 (putsO [] (oddsL (s.1.take k) (t, i, m)))) := hints
    have HB : Hid (Below w.heap.size w wr) := hbel
    have HTV : Hid (TabAt wr ty T o cs (.slice ad n1 c) (.slice wad ln wc) s) := HT.out.below hbel
    have HOV : Hid (wr.ownsRow (T + 1) 25 3 (.slice ad n1 c) n1 (flat s.1)) := by show World.ownsRow _ _ _ _ _ _ _; have := HTV.out.oh; rw [HN1.out] at this; exact this
    have c0 := HTV.out.c0
    have hP : w.heap.size < wr.heap.size := World.block_lt_of_cell? wr _ p0
    clear hints
    by_cases hlt : k < n1
    · have hlt' : (k : Int) < (n1 : Int) := by omega
      obtain ⟨g, c2, hv2, -, hgl, -, e0, e1, e2⟩ := row_cells HOV.out HN1.out hlt
      simp only [Value.slice.injEq] at hv2
      obtain ⟨rfl, -, rfl⟩ := hv2
      obtain ⟨B, hB1, hB2⟩ : ∃ B, B ≤ wr.heap.size ∧ wr.heap.size ≤ B := ⟨_, Nat.le_refl _, Nat.le_refl _⟩
      have hne : Nonempty (Later B wr) := ⟨⟨wr, Below.refl _ _⟩⟩
      have HODD0 : ∀ y : Later B wr, Calls Tryd.prog 39 #[.agg #[.int .i64 (opAt s.1 k).1, .int .i64 (opAt s.1 k).2.1, .int .i64 (opAt s.1 k).2.2], .agg #[.int .i64 t, .int .i64 i, .int .i64 m]] y.W fun e w' => e = .returned (.bool (lodd (opAt s.1 k) (t, i, m))) ∧ ∃ z : Later B wr, w' = z.W := fun y => Later.at y hB1 (lockOdds_any (opAt s.1 k) (t, i, m) y.W)
      obtain ⟨⟨t2, i2, m2⟩, ho⟩ : ∃ o : Op3, opAt s.1 k = o := ⟨_, rfl⟩
      have HO : Hid (opAt s.1 k = (t2, i2, m2)) := ho
      rw [ho] at e0 e1 e2 HODD0
      simp only at e0 e1 e2 HODD0
      have f0 : ∀ y : Later B wr, y.W.cell? ⟨g, k * 3, none⟩ = some (.int .i64 t2) := fun y => (y.h.cell (p := ⟨g, k * 3, none⟩) (by simp; omega)).trans e0
      have f1 : ∀ y : Later B wr, y.W.cell? ⟨g, k * 3 + 1, none⟩ = some (.int .i64 i2) := fun y => (y.h.cell (p := ⟨g, k * 3 + 1, none⟩) (by simp; omega)).trans e1
      have f2 : ∀ y : Later B wr, y.W.cell? ⟨g, k * 3 + 2, none⟩ = some (.int .i64 m2) := fun y => (y.h.cell (p := ⟨g, k * 3 + 2, none⟩) (by simp; omega)).trans e2
      have f3 : ∀ y : Later B wr, y.W.cell? ⟨T, o, none⟩ = some (.slice (some ⟨g, 0, none⟩) n1 c) := fun y => (HTV.out.later y.h hB2).c0
      have g0 : ∀ y : Later B wr, y.W.cell? ⟨w.heap.size, 0, none⟩ = some (.int .i64 t) := fun y => (y.h.cell (p := ⟨w.heap.size, 0, none⟩) (by simp; omega)).trans p0
      have g1 : ∀ y : Later B wr, y.W.cell? ⟨w.heap.size, 1, none⟩ = some (.int .i64 i) := fun y => (y.h.cell (p := ⟨w.heap.size, 1, none⟩) (by simp; omega)).trans p1
      have g2 : ∀ y : Later B wr, y.W.cell? ⟨w.heap.size, 2, none⟩ = some (.int .i64 m) := fun y => (y.h.cell (p := ⟨w.heap.size, 2, none⟩) (by simp; omega)).trans p2
      have HG : Hid (∀ y : Later B wr, y.W.cell? ⟨w.heap.size, 0, none⟩ = some (.int .i64 t) ∧ y.W.cell? ⟨w.heap.size, 1, none⟩ = some (.int .i64 i) ∧ y.W.cell? ⟨w.heap.size, 2, none⟩ = some (.int .i64 m)) := fun y => ⟨g0 y, g1 y, g2 y⟩
      have HF : Hid (∀ y : Later B wr, y.W.cell? ⟨g, k * 3, none⟩ = some (.int .i64 t2) ∧ y.W.cell? ⟨T, o, none⟩ = some (.slice (some ⟨g, 0, none⟩) n1 c)) := fun y => ⟨f0 y, f3 y⟩
      clear ho e0 e1 e2 p0 p1 p2 hbel
      cases hq : lodd (t2, i2, m2) (t, i, m) with
      | false =>
        have HQ : Hid (putsO [] (oddsL (s.1.take (k + 1)) (t, i, m)) = putsO [] (oddsL (s.1.take k) (t, i, m))) := odds_miss (by rw [HN1.out]; exact hlt) (by rw [HO.out]; exact hq) _
        rw [hq] at HODD0
        have HODD : Hid (∀ y : Later B wr, Calls Tryd.prog 39 #[.agg #[.int .i64 t2, .int .i64 i2, .int .i64 m2], .agg #[.int .i64 t, .int .i64 i, .int .i64 m]] y.W fun e w' => e = .returned (.bool false) ∧ ∃ z : Later B wr, w' = z.W) := HODD0
        clear HODD0 hq
        go_wp2_with fail
        refine region_later B (by kernel_rfl) (by kernel_rfl) ?_
        repeat (first | go_big_quiet_skip | (go_big_quiet_want; go_big_quiet_op; first | go_big_quiet_on | (refine ⟨_, fun y => HODD.out y, ?_⟩; go_big_quiet_on)))
        refine wpQuiet_nil ?_
        intro W hW
        obtain ⟨y, rfl⟩ := hW
        go_wp2
        go_roundw
        case rel => exact ⟨k + 1, by omega, by go_num, by rw [HQ.out]; exact HIN.out.below y.h hB2, HB.out.trans (y.h.mono (by omega)), HG.out y⟩
        case measure => simp [intOf]; omega
      | true =>
        have HQ : Hid (putsO [] (oddsL (s.1.take (k + 1)) (t, i, m)) = putL (putsO [] (oddsL (s.1.take k) (t, i, m))) t2) := by show putsO _ _ = _; rw [odds_hit (by rw [HN1.out]; exact hlt) (by rw [HO.out]; exact hq), HO.out]
        rw [hq] at HODD0
        have HODD : Hid (∀ y : Later B wr, Calls Tryd.prog 39 #[.agg #[.int .i64 t2, .int .i64 i2, .int .i64 m2], .agg #[.int .i64 t, .int .i64 i, .int .i64 m]] y.W fun e w' => e = .returned (.bool true) ∧ ∃ z : Later B wr, w' = z.W) := HODD0
        clear HODD0 hq
        go_wp2_with fail
        refine region_later B (by kernel_rfl) (by kernel_rfl) ?_
        repeat (first | go_big_quiet_skip | (go_big_quiet_want; go_big_quiet_op; first | go_big_quiet_on | (refine ⟨_, fun y => HODD.out y, ?_⟩; go_big_quiet_on)))
        refine wpQuiet_nil ?_
        intro W hW
        obtain ⟨y, hy⟩ := hW
        obtain ⟨r0, r1, r2⟩ := HG.out y
        obtain ⟨s0, s3⟩ := HF.out y
        rw [← hy] at r0 r1 r2 s0 s3
        have HBW : Hid (Below w.heap.size w W) := by show Below _ _ _; rw [hy]; exact HB.out.trans (y.h.mono (by omega))
        have HIW : Hid (OwnI W w.heap.size u5 (putsO [] (oddsL (s.1.take k) (t, i, m)))) := by show OwnI _ _ _ _; rw [hy]; exact HIN.out.below y.h hB2
        have HPL : Hid ((putsO [] (oddsL (s.1.take k) (t, i, m))).length ≤ 17592186044000) := by
          show List.length _ ≤ _
          have h1 := putsO_len (oddsL (s.1.take k) (t, i, m)) []
          have h2 := odds_len s.1 k (t, i, m)
          simp only [List.length_nil] at h1
          omega
        have hPW : w.heap.size < W.heap.size := World.block_lt_of_cell? W _ r0
        clear hy y f0 f1 f2 f3 g0 g1 g2 HG HF hne HODD
        go_wp2_with (go_at_call 40; refine (put_own _ u5 t2 W HIW.out.ints HPL.out).mono ?_; rintro e w2 ⟨v2, rfl, hi2, hb2⟩)
        go_roundw
        case rel => exact ⟨k + 1, by omega, by go_num, by rw [HQ.out]; exact OwnI.less hi2 HBW.out.size, HBW.out.trans (hb2.mono HBW.out.size), (hb2.cell (p := ⟨w.heap.size, 0, none⟩) hPW).trans r0, (hb2.cell (p := ⟨w.heap.size, 1, none⟩) hPW).trans r1, (hb2.cell (p := ⟨w.heap.size, 2, none⟩) hPW).trans r2⟩
        case measure => simp [intOf]; omega
    · have hlt' : ¬ (k : Int) < (n1 : Int) := by omega
      obtain rfl : n1 = k := by omega
      have HI1 : Hid (OwnI wr w.heap.size u5 (putsO [] (oddsL s.1 (t, i, m)))) := by
        show OwnI _ _ _ _
        have := HIN.out
        rw [List.take_of_length_le (by rw [HN1.out]; exact Nat.le_refl _)] at this
        exact this
      obtain ⟨o1, ho1⟩ : ∃ o1, putsO [] (oddsL s.1 (t, i, m)) = o1 := ⟨_, rfl⟩
      have HO1 : Hid (putsO [] (oddsL s.1 (t, i, m)) = o1) := ho1
      have hol : o1.length ≤ 900 := by
        rw [← ho1]
        have h1 := putsO_len (oddsL s.1 (t, i, m)) []
        have h2 : (oddsL s.1 (t, i, m)).length ≤ s.1.length := List.length_filter_le _ _
        rw [HN1.out] at h2
        simp only [List.length_nil] at h1
        omega
      rw [ho1] at HI1
      clear ho1 HIN
      have HBX : Hid (Below w.heap.size w wr) := hbel
      obtain ⟨X, hX⟩ : ∃ X : World, X = wr := ⟨_, rfl⟩
      rw [← hX] at HI1 HBX HTV p0 p1 p2 c0 hP ⊢
      clear hX hbel HB HOV
      go_wp2_with fail
      go_loopw [5, 8] (fun v5 v8 wr => ∃ k : Nat, k ≤ ln ∧ v8 = .int .i64 k ∧ (∀ j, j < k → (opAt s.2 j).1 ≠ t) ∧ OwnI wr w.heap.size v5 (putsO o1 (oddsL (s.2.take k) (t, i, m))) ∧ Below X.heap.size X wr) (fun _ v8 _ => ln - (intOf v8).toNat)
      case atStart => exact ⟨0, Nat.zero_le _, rfl, fun j hj => absurd hj (by omega), HI1.out, Below.refl _ _⟩
      case round =>
        obtain ⟨k, hk, rfl, hno, hints, hbel⟩ := hrel
        have HNO : Hid (∀ j, j < k → (opAt s.2 j).1 ≠ t) := hno
        have HIN : Hid (OwnI wr w.heap.size u5 (putsO o1 (oddsL (s.2.take k) (t, i, m)))) := hints
        have HB : Hid (Below X.heap.size X wr) := hbel
        have HTW : Hid (TabAt wr ty T o cs (.slice ad n1 c) (.slice wad ln wc) s) := HTV.out.below hbel
        have HOW : Hid (wr.ownsRow (T + 1) 25 3 (.slice wad ln wc) ln (flat s.2)) := by show World.ownsRow _ _ _ _ _ _ _; have := HTW.out.ow; rw [HLN.out] at this; exact this
        have d1 := HTW.out.c1
        have hsW := hbel.size
        have b0 := (hbel.cell (p := ⟨w.heap.size, 0, none⟩) hP).trans p0
        have b1 := (hbel.cell (p := ⟨w.heap.size, 1, none⟩) hP).trans p1
        have b2 := (hbel.cell (p := ⟨w.heap.size, 2, none⟩) hP).trans p2
        have hPw : w.heap.size < wr.heap.size := by omega
        clear hno hints p0 p1 p2
        by_cases hlt : k < ln
        · have hlt' : (k : Int) < (ln : Int) := by omega
          have hltd : decide ((k : Int) < (ln : Int)) = true := by simpa using hlt
          obtain ⟨g, c2, hv2, -, hgl, -, e0, e1, e2⟩ := row_cells HOW.out HLN.out hlt
          simp only [Value.slice.injEq] at hv2
          obtain ⟨rfl, -, rfl⟩ := hv2
          obtain ⟨⟨t2, i2, m2⟩, ho⟩ : ∃ o : Op3, opAt s.2 k = o := ⟨_, rfl⟩
          have HO : Hid (opAt s.2 k = (t2, i2, m2)) := ho
          by_cases hst : t2 = t
          · subst hst
            have HQ : Hid (OwnI wr w.heap.size u5 (forT s (t2, i, m))) := by
              show OwnI _ _ _ _
              unfold forT
              rw [HO1.out, ahead_stop (k := k) (by rw [HLN.out]; exact hlt) HNO.out (by rw [HO.out])]
              exact HIN.out
            have hstd : (t2 != t2) = false := by simp
            rw [ho] at e0 e1 e2
            simp only at e0 e1 e2
            clear ho hbel
            go_wp2_with fail
            go_quiet (fail)
            go_wp2_with fail
            go_ret
            exact ⟨_, rfl, HQ.out.below (below_drewN (Below.refl _ _) _) (Nat.le_refl _), below_drewN (HBX.out.trans (HB.out.mono HBX.out.size)) _⟩
          · have hstd : (t2 != t) = true := by simpa using hst
            have HNX : Hid (∀ j, j < k + 1 → (opAt s.2 j).1 ≠ t) := fun j hj => by
              rcases Nat.lt_or_ge j k with h | h
              · exact HNO.out j h
              · rw [show j = k by omega, HO.out]; exact hst
            have HODD0 : ∀ W, Calls Tryd.prog 39 #[.agg #[.int .i64 (opAt s.2 k).1, .int .i64 (opAt s.2 k).2.1, .int .i64 (opAt s.2 k).2.2], .agg #[.int .i64 t, .int .i64 i, .int .i64 m]] W fun e w' => e = .returned (.bool (lodd (opAt s.2 k) (t, i, m))) ∧ Below W.heap.size W w' := fun W => lockOdds_any (opAt s.2 k) (t, i, m) W
            rw [ho] at e0 e1 e2 HODD0
            simp only at e0 e1 e2 HODD0
            clear ho hbel hst
            have HODD1 : Hid (∀ W, Calls Tryd.prog 39 #[.agg #[.int .i64 t2, .int .i64 i2, .int .i64 m2], .agg #[.int .i64 t, .int .i64 i, .int .i64 m]] W fun e w' => e = .returned (.bool (lodd (t2, i2, m2) (t, i, m))) ∧ Below W.heap.size W w') := HODD0
            clear HODD0
            go_wp2_with fail
            go_quiet (fail)
            obtain ⟨V, hV⟩ : ∃ V, V = wr.drewN nq := ⟨_, rfl⟩
            rw [← hV]
            have hbV : Below wr.heap.size wr V := by rw [hV]; exact below_drewN (Below.refl _ _) _
            have HBV : Hid (Below wr.heap.size wr V) := hbV
            have hsV := hbV.size
            obtain ⟨B, hB1, hB2⟩ : ∃ B, B ≤ V.heap.size ∧ V.heap.size ≤ B := ⟨_, Nat.le_refl _, Nat.le_refl _⟩
            have hne : Nonempty (Later B V) := ⟨⟨V, Below.refl _ _⟩⟩
            have f0 : ∀ y : Later B V, y.W.cell? ⟨g, k * 3, none⟩ = some (.int .i64 t2) := fun y => (y.h.cell (p := ⟨g, k * 3, none⟩) (by simp; omega)).trans ((hbV.cell (p := ⟨g, k * 3, none⟩) hgl).trans e0)
            have f1 : ∀ y : Later B V, y.W.cell? ⟨g, k * 3 + 1, none⟩ = some (.int .i64 i2) := fun y => (y.h.cell (p := ⟨g, k * 3 + 1, none⟩) (by simp; omega)).trans ((hbV.cell (p := ⟨g, k * 3 + 1, none⟩) hgl).trans e1)
            have f2 : ∀ y : Later B V, y.W.cell? ⟨g, k * 3 + 2, none⟩ = some (.int .i64 m2) := fun y => (y.h.cell (p := ⟨g, k * 3 + 2, none⟩) (by simp; omega)).trans ((hbV.cell (p := ⟨g, k * 3 + 2, none⟩) hgl).trans e2)
            have f3 : ∀ y : Later B V, y.W.cell? ⟨T, o + 1, none⟩ = some (.slice (some ⟨g, 0, none⟩) ln wc) := fun y => ((HTW.out.below hbV).later y.h hB2).c1
            have g0 : ∀ y : Later B V, y.W.cell? ⟨w.heap.size, 0, none⟩ = some (.int .i64 t) := fun y => (y.h.cell (p := ⟨w.heap.size, 0, none⟩) (by simp; omega)).trans ((hbV.cell (p := ⟨w.heap.size, 0, none⟩) hPw).trans b0)
            have g1 : ∀ y : Later B V, y.W.cell? ⟨w.heap.size, 1, none⟩ = some (.int .i64 i) := fun y => (y.h.cell (p := ⟨w.heap.size, 1, none⟩) (by simp; omega)).trans ((hbV.cell (p := ⟨w.heap.size, 1, none⟩) hPw).trans b1)
            have g2 : ∀ y : Later B V, y.W.cell? ⟨w.heap.size, 2, none⟩ = some (.int .i64 m) := fun y => (y.h.cell (p := ⟨w.heap.size, 2, none⟩) (by simp; omega)).trans ((hbV.cell (p := ⟨w.heap.size, 2, none⟩) hPw).trans b2)
            have HF : Hid (∀ y : Later B V, y.W.cell? ⟨g, k * 3, none⟩ = some (.int .i64 t2) ∧ y.W.cell? ⟨T, o + 1, none⟩ = some (.slice (some ⟨g, 0, none⟩) ln wc)) := fun y => ⟨f0 y, f3 y⟩
            clear hV hbV e0 e1 e2 b0 b1 b2 d1
            cases hq : lodd (t2, i2, m2) (t, i, m) with
            | false =>
              have HQ : Hid (putsO o1 (oddsL (s.2.take (k + 1)) (t, i, m)) = putsO o1 (oddsL (s.2.take k) (t, i, m))) := odds_miss (by rw [HLN.out]; exact hlt) (by rw [HO.out]; exact hq) _
              rw [hq] at HODD1
              have HODD : Hid (∀ y : Later B V, Calls Tryd.prog 39 #[.agg #[.int .i64 t2, .int .i64 i2, .int .i64 m2], .agg #[.int .i64 t, .int .i64 i, .int .i64 m]] y.W fun e w' => e = .returned (.bool false) ∧ ∃ z : Later B V, w' = z.W) := fun y => Later.at y hB1 (HODD1.out y.W)
              clear HODD1 hq
              go_wp2_with fail
              refine region_later B (by kernel_rfl) (by kernel_rfl) ?_
              repeat (first | go_big_quiet_skip | (go_big_quiet_want; go_big_quiet_op; first | go_big_quiet_on | (refine ⟨_, fun y => HODD.out y, ?_⟩; go_big_quiet_on)))
              refine wpQuiet_nil ?_
              intro W hW
              obtain ⟨y, rfl⟩ := hW
              go_wp2
              go_roundw
              case rel => exact ⟨k + 1, by omega, by go_num, HNX.out, by rw [HQ.out]; exact (HIN.out.below HBV.out (Nat.le_refl _)).below y.h hB2, HB.out.trans ((HBV.out.mono hsW).trans (y.h.mono (by omega)))⟩
              case measure => simp [intOf]; omega
            | true =>
              have HQ : Hid (putsO o1 (oddsL (s.2.take (k + 1)) (t, i, m)) = putL (putsO o1 (oddsL (s.2.take k) (t, i, m))) t2) := by show putsO _ _ = _; rw [odds_hit (by rw [HLN.out]; exact hlt) (by rw [HO.out]; exact hq), HO.out]
              rw [hq] at HODD1
              have HODD : Hid (∀ y : Later B V, Calls Tryd.prog 39 #[.agg #[.int .i64 t2, .int .i64 i2, .int .i64 m2], .agg #[.int .i64 t, .int .i64 i, .int .i64 m]] y.W fun e w' => e = .returned (.bool true) ∧ ∃ z : Later B V, w' = z.W) := fun y => Later.at y hB1 (HODD1.out y.W)
              clear HODD1 hq
              go_wp2_with fail
              refine region_later B (by kernel_rfl) (by kernel_rfl) ?_
              repeat (first | go_big_quiet_skip | (go_big_quiet_want; go_big_quiet_op; first | go_big_quiet_on | (refine ⟨_, fun y => HODD.out y, ?_⟩; go_big_quiet_on)))
              refine wpQuiet_nil ?_
              intro W hW
              obtain ⟨y, hy⟩ := hW
              obtain ⟨s0, s3⟩ := HF.out y
              rw [← hy] at s0 s3
              have HBW : Hid (Below X.heap.size X W) := by show Below _ _ _; rw [hy]; exact HB.out.trans ((HBV.out.mono hsW).trans (y.h.mono (by omega)))
              have HIW : Hid (OwnI W w.heap.size u5 (putsO o1 (oddsL (s.2.take k) (t, i, m)))) := by show OwnI _ _ _ _; rw [hy]; exact (HIN.out.below HBV.out (Nat.le_refl _)).below y.h hB2
              have HPL : Hid ((putsO o1 (oddsL (s.2.take k) (t, i, m))).length ≤ 17592186044000) := by
                show List.length _ ≤ _
                have h1 := putsO_len (oddsL (s.2.take k) (t, i, m)) o1
                have h2 := odds_len s.2 k (t, i, m)
                omega
              clear hy y f0 f1 f2 f3 g0 g1 g2 HF hne HODD
              go_wp2_with (go_at_call 40; refine (put_own _ u5 t2 W HIW.out.ints HPL.out).mono ?_; rintro e w2 ⟨v2, rfl, hi2, hb2⟩)
              go_roundw
              case rel => exact ⟨k + 1, by omega, by go_num, HNX.out, by rw [HQ.out]; exact OwnI.less hi2 (Nat.le_trans HBX.out.size HBW.out.size), HBW.out.trans (hb2.mono HBW.out.size)⟩
              case measure => simp [intOf]; omega
        · have hlt' : ¬ (k : Int) < (ln : Int) := by omega
          have hltd : decide ((k : Int) < (ln : Int)) = false := by simpa using hlt
          obtain rfl : ln = k := by omega
          have HQ : Hid (OwnI wr w.heap.size u5 (forT s (t, i, m))) := by
            show OwnI _ _ _ _
            unfold forT
            have := HIN.out
            rw [List.take_of_length_le (by rw [HLN.out]; exact Nat.le_refl _)] at this
            rw [HO1.out, ahead_all (by rw [HLN.out]; exact HNO.out)]
            exact this
          clear hbel
          go_wp2_with fail
          go_quiet (fail)
          go_wp2_with fail
          go_ret
          exact ⟨_, rfl, HQ.out.below (below_drewN (Below.refl _ _) _) (Nat.le_refl _), below_drewN (HBX.out.trans (HB.out.mono HBX.out.size)) _⟩
theorem refFor_any (ty : TypeId) (T o : Nat) (cs : Array Value) (hv wv : Value) (s : Tab2) (x : Op3) (w : World) (h : TabAt w ty T o cs hv wv s) (hl1 : s.1.length ≤ 900) (hl2 : s.2.length ≤ 900) :
    Calls Tryd.prog 15 #[.pointer (some ⟨T, o, none⟩), lkV x] w fun e w' => ∃ v', e = .returned v' ∧ IsInts w' v' (forT s x) ∧ Below w.heap.size w w' :=
  (refFor_own ty T o cs hv wv s x w h hl1 hl2).mono fun _ _ ⟨v', he, ho, hb⟩ => ⟨v', he, ho.ints, hb⟩
end Go.Proofs.YtjaeaanpbdmfgaeDoor
