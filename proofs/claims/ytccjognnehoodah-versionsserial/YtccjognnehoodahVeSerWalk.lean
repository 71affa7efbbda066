/-
  PROVED HERE: lanelaw2.VersionsSerial answers true, of any ops, over whatever keeps RunsC of chapter 14.
  Conditions: RunsC.
-/
import Derived.Test.YtccjognnehoodahVaSerPlain
import Derived.Test.YtccjognnehoodahMgap
import Derived.Test.YtccjognnehoodahKindBy
import Derived.Test.YtccjognnehoodahVaSerWalk
namespace Go.Proofs.Ytccjognnehoodah
open Go.RowKit

def four2 : List Op3 := [(2, 1, 1), (1, 2, 1), (1, 3, 0), (2, 3, 0)]
theorem four2_at (W : World) : IsOps (W.alloc (.cells #[.int .i64 2, .int .i64 1, .int .i64 1, .int .i64 1, .int .i64 2, .int .i64 1, .int .i64 1, .int .i64 3, .int .i64 0, .int .i64 2, .int .i64 3, .int .i64 0] 24)) (.slice (some ⟨W.heap.size, 0, none⟩) 4 4) four2 := by
  refine ⟨some ⟨W.heap.size, 0, none⟩, W.heap.size, 0, 4, rfl, fun _ => rfl, fun h => (by cases h), .inl (by simp), opsAt_of fun j u hj => ?_⟩
  rw [Nat.zero_add]
  match j, hj with
  | 0, hj => simp [flat, four2] at hj; subst hj; simp
  | 1, hj => simp [flat, four2] at hj; subst hj; simp
  | 2, hj => simp [flat, four2] at hj; subst hj; simp
  | 3, hj => simp [flat, four2] at hj; subst hj; simp
  | 4, hj => simp [flat, four2] at hj; subst hj; simp
  | 5, hj => simp [flat, four2] at hj; subst hj; simp
  | 6, hj => simp [flat, four2] at hj; subst hj; simp
  | 7, hj => simp [flat, four2] at hj; subst hj; simp
  | 8, hj => simp [flat, four2] at hj; subst hj; simp
  | 9, hj => simp [flat, four2] at hj; subst hj; simp
  | 10, hj => simp [flat, four2] at hj; subst hj; simp
  | 11, hj => simp [flat, four2] at hj; subst hj; simp
  | k + 12, hj => simp [flat, four2] at hj
theorem ve_four : (outU 4 okN true four2).1.1 = [2] ∧ (outU 4 okN true four2).2 = 0 := by decide
theorem ve_reader {l : List Op3} (h : (chk l).2 = 0) {t : Int} (hw : (ofL l t).any (fun o => o.2.1 == 2) = false) (he : endOf l t = 3) : t ∈ byNum (runK 4 okN l l.length).done := by
  obtain ⟨_, hop, hcalm⟩ := (chk_iff l).1 h
  have hwr : wrL (ofL l t) = [] := by
    unfold wrL
    rw [List.filter_eq_nil_iff.2 fun o ho => by have := List.any_eq_false.1 hw o ho; simpa using this]
    rfl
  have hK := run_kOk 4 okN h l.length (Nat.le_refl _)
  exact (byNum_mem (fun t ht => ⟨(hK.comm t ht).2.1, (hK.comm t ht).2.2.1⟩) t).2 (vers_reader h (mem_endOf hop he) hwr)
theorem ve_right {l : List Op3} (h : (chk l).2 = 0) : RightB l (byNum (runK 4 okN l l.length).done) := by
  have hK := run_kOk 4 okN h l.length (Nat.le_refl _)
  exact ⟨(byNum_rise _).imp fun h e => by omega, fun t ht => (run_right 4 okN h).2 t ((byNum_mem (fun t ht => ⟨(hK.comm t ht).2.1, (hK.comm t ht).2.2.1⟩) t).1 ht)⟩
theorem ve_by {l : List Op3} (h : (chk l).2 = 0) : ByOk l (seenL (runK 4 okN l l.length).of (byNum (runK 4 okN l l.length).done)) (lastL (runK 4 okN l l.length).of (byNum (runK 4 okN l l.length).done)) (byNum (runK 4 okN l l.length).done) := by
  have hK := run_kOk 4 okN h l.length (Nat.le_refl _)
  exact run_by 4 okN h ((byNum_rise _).imp fun h e => by omega) (fun t ht => (byNum_mem (fun t ht => ⟨(hK.comm t ht).2.1, (hK.comm t ht).2.2.1⟩) t).1 ht) fun _ _ _ hp => vers_sees h hp
set_option maxHeartbeats 16000000 in
set_option maxRecDepth 100000 in
theorem veser_any (hV : RunsC 5 4 okN true) (l : List Op3) (v : Value) (w : World) (hI : IsOps w v l) :
    Calls Try.prog 3 #[v] w fun e w' => e = .returned (.bool true) ∧ Below w.heap.size w w' := by
  have HIE : Hid (∀ W, Below w.heap.size w W → IsOps W v l) := fun W hW => hI.below hW (Nat.le_refl _)
  have HRUN : Hid (∀ W, Below w.heap.size w W → Calls Try.prog 5 #[v] W fun e w' => ∃ a1 a2 a3, e = .returned (.tuple #[.agg #[a1, a2, a3], errV (outU 4 okN true l).2]) ∧ IsInts w' a1 (outU 4 okN true l).1.1 ∧ IsOps w' a2 (outU 4 okN true l).1.2.1 ∧ IsInts w' a3 (outU 4 okN true l).1.2.2 ∧ Room a1 ∧ Below W.heap.size W w') := fun W hW => hV l v W (HIE.out W hW)
  have HONE : Hid (∀ W u, IsOps W u four2 → Calls Try.prog 5 #[u] W fun e w' => ∃ g o c a2 a3, e = .returned (.tuple #[.agg #[.slice (some ⟨g, o, none⟩) 1 c, a2, a3], .nilIface]) ∧ w'.cell? ⟨g, o, none⟩ = some (.int .i64 2) ∧ (∃ ad n c, a2 = .slice ad n c) ∧ (∃ ad n c, a3 = .slice ad n c) ∧ Below W.heap.size W w') := fun W u hu => by
    refine (hV four2 u W hu).mono ?_
    rintro e w' ⟨a1, a2, a3, he, hi1, hi2, hi3, -, hb⟩
    rw [ve_four.2] at he
    rw [ve_four.1] at hi1
    obtain ⟨x1, b1, o1, c1, rfl, h1, -, -, k1⟩ := hi1
    rw [h1 (by simp)] at he
    refine ⟨b1, o1, c1, a2, a3, he, by have := k1 0 (by simp); simpa using this, ?_, ?_, hb⟩
    · obtain ⟨ad, _, _, cap, hv, _⟩ := hi2; exact ⟨ad, _, cap, hv⟩
    · obtain ⟨ad, _, _, cap, hv, _⟩ := hi3; exact ⟨ad, _, cap, hv⟩
  have HST : Hid (∀ W W', Below w.heap.size w W → Below W.heap.size W W' → Below w.heap.size w W') := fun W W' h1 h2 => h1.trans (h2.mono h1.size)
  obtain ⟨ad, b, off, cap, hv, -⟩ := hI
  subst hv
  clear hV
  go_enter Try.func3, Try.ntmps3
  go_wp2_with fail
  have HB1 : Hid (Below w.heap.size w (w.alloc (.cells #[.int .i64 2, .int .i64 1, .int .i64 1, .int .i64 1, .int .i64 2, .int .i64 1, .int .i64 1, .int .i64 3, .int .i64 0, .int .i64 2, .int .i64 3, .int .i64 0] 24))) := (Below.refl _ w).alloc (Nat.le_refl _) _
  refine (HONE.out _ _ (four2_at w)).mono ?_
  rintro e w2 ⟨g, o, c, a2, a3, rfl, k1, ⟨x2, y2, z2, rfl⟩, ⟨x3, y3, z3, rfl⟩, hb2⟩
  have HB2 := hid_s (HST.out _ _ HB1.out hb2)
  clear hb2 HB1
  go_upto_region 3 with (fail)
  obtain ⟨W2, hW2⟩ : ∃ W, W = w2.alloc (.cells #[.slice (some ⟨g, o, none⟩) 1 c, .slice x2 y2 z2, .slice x3 y3 z3] 28) := ⟨_, rfl⟩
  rw [← hW2]
  have hbn : Below w2.heap.size w2 W2 := by rw [hW2]; exact (Below.refl _ w2).alloc (Nat.le_refl _) _
  have HB3 := hid_s (HST.out _ _ HB2.out hbn)
  have p0 : W2.cell? ⟨w2.heap.size, 0, none⟩ = some (.slice (some ⟨g, o, none⟩) 1 c) := by rw [hW2]; simp
  have k3 : W2.cell? ⟨g, o, none⟩ = some (.int .i64 2) := (hbn.cell (p := ⟨g, o, none⟩) (World.block_lt_of_cell? w2 _ k1)).trans k1
  obtain ⟨P, hP⟩ : ∃ P, P = w2.heap.size := ⟨_, rfl⟩
  rw [← hP] at p0 ⊢
  clear hW2 hP hbn k1
  go_upto_region 5 with (fail)
  clear p0 k3
  by_cases hc : (chk l).2 = 0
  · have hop := ((chk_iff l).1 hc).2.1
    have hl40 := chk_len hc
    have hul := outU_len 4 okN true l
    have HRD : Hid (∀ t, (ofL l t).any (fun o => o.2.1 == 2) = false → endOf l t = 3 → t ∈ byNum (runK 4 okN l l.length).done) := fun t hw he => ve_reader hc hw he
    have hrt := ve_right hc
    have hby := ve_by hc
    have hri : (byNum (runK 4 okN l l.length).done).Pairwise (· < ·) := byNum_rise _
    have hla : (lastL (runK 4 okN l l.length).of (byNum (runK 4 okN l l.length).done)).length = 6 := lastL_len _ _
    rw [outU_ok hc] at HRUN hul
    have he0 : ordN true (runK 4 okN l l.length).done = byNum (runK 4 okN l l.length).done := rfl
    rw [he0] at HRUN hul
    obtain ⟨ds, hds⟩ : ∃ d, byNum (runK 4 okN l l.length).done = d := ⟨_, rfl⟩
    rw [hds] at HRUN hul HRD hrt hby hla hri
    obtain ⟨se, hse⟩ : ∃ d, seenL (runK 4 okN l l.length).of ds = d := ⟨_, rfl⟩
    rw [hse] at HRUN hul hby
    obtain ⟨la, hlq⟩ : ∃ d, lastL (runK 4 okN l l.length).of ds = d := ⟨_, rfl⟩
    rw [hlq] at HRUN hul hby hla
    simp only at HRUN hul
    have HRUN2 : Hid (∀ W, Below w.heap.size w W → Calls Try.prog 5 #[.slice ad l.length cap] W fun e w' => ∃ a1 a2 a3, e = .returned (.tuple #[.agg #[a1, a2, a3], .nilIface]) ∧ IsInts w' a1 ds ∧ IsOps w' a2 se ∧ IsInts w' a3 la ∧ Room a1 ∧ Below W.heap.size W w') := HRUN.out
    have HRI : Hid (∀ W a1 a2 a3, Below w.heap.size w W → IsInts W a1 ds → IsOps W a2 se → IsInts W a3 la → Room a1 → Calls Try.prog 6 #[.slice ad l.length cap, .agg #[a1, a2, a3]] W fun e w' => e = .returned (.bool true) ∧ Below W.heap.size W w') := fun W a1 a2 a3 hW h1 h2 h3 hr =>
      right_any l _ a1 a2 a3 ds la W (HIE.out W hW) (by omega) h1 h3 (by obtain ⟨ad, _, _, cap, hv, _⟩ := h2; exact ⟨ad, _, cap, hv⟩) hr hul.1 hla hrt
    have HBY : Hid (∀ W a1 a2 a3, Below w.heap.size w W → IsInts W a1 ds → IsOps W a2 se → IsInts W a3 la → Calls Try.prog 7 #[.slice ad l.length cap, .agg #[a1, a2, a3], a1] W fun e w' => e = .returned (.bool true) ∧ Below W.heap.size W w') := fun W a1 a2 a3 hW h1 h2 h3 =>
      by_any l _ a1 a2 a3 a1 se la ds W (HIE.out W hW) (by obtain ⟨ad, _, _, cap, hv, _⟩ := h1; exact ⟨ad, _, cap, hv⟩) h2 h3 h1 hop hl40 hul.2.1 hul.1 hby
    have HD6 : Hid (ds.length ≤ 6) := hul.1
    have HRS : Hid (∀ i, 0 < i → i < ds.length → ds.getD (i - 1) 0 < ds.getD i 0) := fun i h0 hi => by
      have := List.pairwise_iff_getElem.1 hri (i - 1) i (by omega) hi (by omega)
      simpa [List.getD, List.getElem?_eq_getElem (show i - 1 < ds.length by omega), List.getElem?_eq_getElem hi] using this
    have HOF : Hid (∀ W, Below w.heap.size w W → ∀ t, Calls Try.prog 8 #[.slice ad l.length cap, .int .i64 t] W fun e w' => ∃ v', e = .returned v' ∧ IsOps w' v' (ofL l t) ∧ Below W.heap.size W w') := fun W hW t => refOf_any l _ t W (HIE.out W hW) (by omega)
    have HEN : Hid (∀ W, Below w.heap.size w W → ∀ t, Calls Try.prog 10 #[.slice ad l.length cap, .int .i64 t, .int .i64 l.length] W fun e w' => e = .returned (.int .i64 (endOf l t)) ∧ w' = W) := fun W hW t => end_v l _ t W (HIE.out W hW) (by omega)
    have HOL : Hid (∀ t, (ofL l t).length ≤ 40) := fun t => Nat.le_trans (List.length_filter_le _ _) hl40
    clear hop hul hrt hby hla hri he0 hds hse hlq hc HRUN HONE
    go_wp2_with fail
    refine (HRUN2.out _ HB3.out).mono ?_
    rintro e w5 ⟨a1, a2, a3, rfl, h1, h2, h3, hro, hb5⟩
    have HB5 := hid_s (HST.out _ _ HB3.out hb5)
    have H5 : Hid (∀ W, Below w5.heap.size w5 W → IsInts W a1 ds ∧ IsOps W a2 se ∧ IsInts W a3 la ∧ Below w.heap.size w W) := fun W hW => ⟨h1.below hW (Nat.le_refl _), h2.below hW (Nat.le_refl _), h3.below hW (Nat.le_refl _), HST.out _ _ HB5.out hW⟩
    obtain ⟨r1, s1, t1, rfl⟩ : ∃ ad n c, a1 = .slice ad n c := by obtain ⟨ad, _, _, cap, hv, _⟩ := h1; exact ⟨ad, _, cap, hv⟩
    obtain ⟨r2, s2, t2, rfl⟩ : ∃ ad n c, a2 = .slice ad n c := by obtain ⟨ad, _, _, cap, hv, _⟩ := h2; exact ⟨ad, _, cap, hv⟩
    obtain ⟨r3, s3, t3, rfl⟩ : ∃ ad n c, a3 = .slice ad n c := by obtain ⟨ad, _, _, cap, hv, _⟩ := h3; exact ⟨ad, _, cap, hv⟩
    have HRO := hid_s hro
    clear h1 h2 h3 hro hb5 HRUN2
    go_upto_region 6 with (fail)
    obtain ⟨W6, hW6⟩ : ∃ W, W = w5.alloc (.cells #[.slice r1 s1 t1, .slice r2 s2 t2, .slice r3 s3 t3] 28) := ⟨_, rfl⟩
    rw [← hW6]
    have hb6 : Below w5.heap.size w5 W6 := by rw [hW6]; exact (Below.refl _ w5).alloc (Nat.le_refl _) _
    have q0 : W6.cell? ⟨w5.heap.size, 0, none⟩ = some (.slice r1 s1 t1) := by rw [hW6]; simp
    have q1 : W6.cell? ⟨w5.heap.size, 1, none⟩ = some (.slice r2 s2 t2) := by rw [hW6]; simp
    have q2 : W6.cell? ⟨w5.heap.size, 2, none⟩ = some (.slice r3 s3 t3) := by rw [hW6]; simp
    obtain ⟨Q, hQ⟩ : ∃ Q, Q = w5.heap.size := ⟨_, rfl⟩
    rw [← hQ] at q0 q1 q2 ⊢
    have H6 := hid_s hb6
    clear hW6 hQ hb6
    go_wp2_with fail
    obtain ⟨i1, i2, i3, i4⟩ := H5.out W6 H6.out
    refine (HRI.out W6 _ _ _ i4 i1 i2 i3 HRO.out).mono ?_
    rintro e w7 ⟨rfl, hb7⟩
    have hq : Q < W6.heap.size := World.block_lt_of_cell? W6 _ q0
    have m0 := (hb7.cell (p := ⟨Q, 0, none⟩) hq).trans q0
    have m1 := (hb7.cell (p := ⟨Q, 1, none⟩) hq).trans q1
    have m2 := (hb7.cell (p := ⟨Q, 2, none⟩) hq).trans q2
    have H7 : Hid (Below w5.heap.size w5 w7) := H6.out.trans (hb7.mono H6.out.size)
    clear hb7 q0 q1 q2 i1 i2 i3 i4
    go_wp2_with fail
    obtain ⟨i1, i2, i3, i4⟩ := H5.out w7 H7.out
    refine (HBY.out w7 _ _ _ i4 i1 i2 i3).mono ?_
    rintro e w8 ⟨rfl, hb8⟩
    have HLA : Hid (∀ W W', (Below w.heap.size w W ∧ W.cell? ⟨Q, 0, none⟩ = some (.slice r1 s1 t1) ∧ IsInts W (.slice r1 s1 t1) ds) → Below W.heap.size W W' → (Below w.heap.size w W' ∧ W'.cell? ⟨Q, 0, none⟩ = some (.slice r1 s1 t1) ∧ IsInts W' (.slice r1 s1 t1) ds)) := fun W W' hh hb => ⟨HST.out _ _ hh.1 hb, (hb.cell (p := ⟨Q, 0, none⟩) (World.block_lt_of_cell? W _ hh.2.1)).trans hh.2.1, hh.2.2.below hb (Nat.le_refl _)⟩
    have HS8 : Hid (Below w.heap.size w w8 ∧ w8.cell? ⟨Q, 0, none⟩ = some (.slice r1 s1 t1) ∧ IsInts w8 (.slice r1 s1 t1) ds) := HLA.out w7 w8 ⟨i4, m0, i1⟩ hb8
    clear hb8 i1 i2 i3 i4 m0 m1 m2 H7 H6 H5
    go_wp2_with fail
    go_loopw [8] (fun v8 wr => ∃ n : Nat, n ≤ ds.length ∧ v8 = .int .i64 n ∧ (Below w.heap.size w wr ∧ wr.cell? ⟨Q, 0, none⟩ = some (.slice r1 s1 t1) ∧ IsInts wr (.slice r1 s1 t1) ds)) (fun v8 _ => ds.length - (intOf v8).toNat)
    case atStart => exact ⟨0, Nat.zero_le _, rfl, HS8.out⟩
    case round =>
      obtain ⟨n, hn, rfl, hst⟩ := hrel
      have HSW := hid_s hst
      have q0 := hst.2.1
      obtain ⟨adq, bq, ofq, cpq, hvq, haq, -, -, hcq⟩ := hst.2.2
      simp only [Value.slice.injEq] at hvq
      obtain ⟨rfl, rfl, rfl⟩ := hvq
      clear hst HS8
      by_cases hlt : n < ds.length
      · have hlt' : (n : Int) < (ds.length : Int) := by omega
        have hn0 : (0 : Int) ≤ (n : Int) := by omega
        have hnn : ¬ (n : Int) < 0 := by omega
        obtain rfl := haq (by omega)
        have kn := hcq n hlt
        rcases Nat.eq_zero_or_pos n with rfl | hp
        · have hgd : decide ((0 : Int) < ((0 : Nat) : Int)) = false := by decide
          clear hcq haq
          go_wp2_with fail
          go_quiet (fail)
          go_wp2_with fail
          go_roundw
          case rel => exact ⟨1, by omega, by go_num, HLA.out _ _ HSW.out (below_drewN (Below.refl _ _) _)⟩
          case measure => simp [intOf]; omega
        · obtain ⟨m, rfl⟩ : ∃ m, n = m + 1 := ⟨n - 1, by omega⟩
          have km := hcq m (by omega)
          have hrs := HRS.out (m + 1) (by omega) hlt
          rw [Nat.add_sub_cancel] at hrs
          obtain ⟨x, hx⟩ : ∃ x, ds.getD (m + 1) 0 = x := ⟨_, rfl⟩
          obtain ⟨y, hy⟩ : ∃ y, ds.getD m 0 = y := ⟨_, rfl⟩
          rw [hx] at kn hrs
          rw [hy] at km hrs
          obtain ⟨n1, hn1⟩ : ∃ n1, n1 = m + 1 := ⟨_, rfl⟩
          rw [← hn1] at kn hlt hlt' hn0 hnn hn ⊢
          have hgd : decide ((0 : Int) < (n1 : Int)) = true := decide_eq_true (by omega)
          have hgp : (0 : Int) < (n1 : Int) := by omega
          have hnp : 0 < n1 := by omega
          have hd6 : ds.length ≤ 6 := HD6.out
          have hnpd : decide (0 < n1) = true := decide_eq_true hnp
          have hsb : (n1 : Int) - 1 = (m : Int) := by omega
          have hwp : IntKind.i64.wrap (m : Int) = (m : Int) := by rw [IntKind.wrap_i64]; have := HD6.out; omega
          have hm0 : (0 : Int) ≤ (m : Int) := by omega
          have hmn : ¬ (m : Int) < 0 := by omega
          have hml : (m : Int) < (ds.length : Int) := by omega
          have hle : decide (x ≤ y) = false := decide_eq_false (by omega)
          have HN1 := hid_s hn1
          clear hcq haq hx hy hrs hp hn1
          go_wp2_with fail
          go_quiet (fail)
          go_wp2_with fail
          go_roundw
          case rel => exact ⟨n1 + 1, by omega, by go_num, HLA.out _ _ HSW.out (below_drewN (Below.refl _ _) _)⟩
          case measure => simp [intOf]; omega
      · have hlt' : ¬ (n : Int) < (ds.length : Int) := by omega
        have HSR := hid_s HSW.out
        clear hcq haq
        go_wp2_with fail
        clear q0
        go_loopw [9, 10, 11, 12, 13] (fun v8 _ _ _ _ wr => ∃ n : Nat, n ≤ 6 ∧ v8 = .int .i64 ((n : Int) + 1) ∧ (Below w.heap.size w wr ∧ wr.cell? ⟨Q, 0, none⟩ = some (.slice r1 ds.length t1) ∧ IsInts wr (.slice r1 ds.length t1) ds)) (fun v8 _ _ _ _ _ => 7 - (intOf v8).toNat)
        case atStart => exact ⟨0, by omega, rfl, HSR.out⟩
        case round =>
          obtain ⟨n, hn, rfl, hst⟩ := hrel
          have HSW := hid_s hst
          clear hst HSR
          by_cases hlt : n < 6
          · have hlt' : (n : Int) + 1 ≤ 6 := by omega
            obtain ⟨tx, htx⟩ : ∃ t : Int, (n : Int) + 1 = t := ⟨_, rfl⟩
            obtain ⟨own, hown⟩ : ∃ o, ofL l tx = o := ⟨_, rfl⟩
            have HOFt : Hid (Calls Try.prog 8 #[.slice ad l.length cap, .int .i64 tx] wr fun e w' => ∃ v', e = .returned v' ∧ IsOps w' v' own ∧ Below wr.heap.size wr w') := by have := HOF.out wr HSW.out.1 tx; rw [hown] at this; exact this
            have hol : own.length ≤ 40 := by rw [← hown]; exact HOL.out tx
            have HRT : Hid (own.any (fun o => o.2.1 == 2) = false → endOf l tx = 3 → tx ∈ ds) := by rw [← hown]; exact HRD.out tx
            have HTX := hid_s htx
            have ht1 : 1 ≤ tx := by omega
            have hwt : IntKind.i64.wrap (tx + 1) = tx + 1 := by rw [IntKind.wrap_i64]; omega
            rw [htx] at hlt' ⊢
            clear hown htx
            go_wp2_with fail
            refine HOFt.out.mono ?_
            rintro e w7 ⟨v7, rfl, hio, hb7⟩
            have HS7 := hid_s (HLA.out _ _ HSW.out hb7)
            obtain ⟨ado, bo, offo, capo, rfl, hao, -, hbBo, hopo⟩ := hio
            have HOO : Hid (∀ j, j < own.length → ado = some ⟨bo, offo, none⟩ ∧ w7.cell? ⟨bo, offo + j * 3 + 1, none⟩ = some (.int .i64 (opAt own j).2.1)) := fun j hj => ⟨hao (by omega), (hopo j hj).2.1⟩
            clear hb7 hao hbBo hopo HOFt
            go_wp2_with fail
            go_loopw [11, 12] (fun v10 v11 wr => ∃ j : Nat, j ≤ own.length ∧ v11 = .int .i64 j ∧ v10 = .bool ((own.take j).any fun o => o.2.1 == 2) ∧ wr = w7) (fun _ v11 _ => own.length - (intOf v11).toNat)
            case atStart => exact ⟨0, Nat.zero_le _, rfl, rfl, rfl⟩
            case round =>
              obtain ⟨j, hj, rfl, rfl, hwr⟩ := hrel
              subst hwr
              by_cases hlt2 : j < own.length
              · have hlt2' : (j : Int) < (own.length : Int) := by omega
                have hj0 : (0 : Int) ≤ (j : Int) := by omega
                have hjn : ¬ (j : Int) < 0 := by omega
                obtain ⟨rfl, e1⟩ := HOO.out j hlt2
                obtain ⟨b1, hb1⟩ : ∃ b, ((own.take j).any fun o => o.2.1 == 2) = b := ⟨_, rfl⟩
                obtain ⟨a, hao⟩ : ∃ a, (opAt own j).2.1 = a := ⟨_, rfl⟩
                rw [hao] at e1
                have HTJ : Hid (((own.take (j + 1)).any fun o => o.2.1 == 2) = (b1 || (a == 2))) := by
                  show _ = _
                  rw [List.take_succ_eq_append_getElem hlt2, List.any_append, hb1]
                  have h9 : own[j] = opAt own j := by simp [opAt, List.getD, List.getElem?_eq_getElem hlt2]
                  simp [h9, hao]
                rw [hb1]
                clear hb1 hao
                cases b1 with
                | true =>
                  go_wp2_with fail
                  go_roundw
                  case rel => exact ⟨j + 1, by omega, by go_num, by rw [HTJ.out]; simp, trivial⟩
                  case measure => simp [intOf]; omega
                | false =>
                  go_wp2_with fail
                  go_roundw
                  case rel => exact ⟨j + 1, by omega, by go_num, by rw [HTJ.out]; simp, trivial⟩
                  case measure => simp [intOf]; omega
              · have hlt2' : ¬ (j : Int) < (own.length : Int) := by omega
                obtain rfl : j = own.length := by omega
                rw [List.take_length]
                obtain ⟨b1, hb1⟩ : ∃ b, (own.any fun o => o.2.1 == 2) = b := ⟨_, rfl⟩
                rw [hb1] at HRT ⊢
                obtain ⟨b2, hb2⟩ : ∃ b, inB ds tx = b := ⟨_, rfl⟩
                have HIN : Hid (Calls Try.prog 9 #[.slice r1 ds.length t1, .int .i64 tx] wr fun e w' => e = .returned (.bool b2) ∧ w' = wr) := by have h9 := in_any ds (.slice r1 ds.length t1) tx wr HS7.out.2.2 (by have := HD6.out; omega); rw [hb2] at h9; exact h9
                have qq := HS7.out.2.1
                have HENt := hid_s (HEN.out wr HS7.out.1 tx)
                obtain ⟨en, hen⟩ : ∃ e, endOf l tx = e := ⟨_, rfl⟩
                rw [hen] at HENt HRT
                have HIB : Hid (b2 = true ∨ tx ∉ ds) := by
                  cases b2 with
                  | true => exact .inl rfl
                  | false =>
                    refine .inr fun hm => ?_
                    have h9 : inB ds tx = true := by unfold inB; simpa using hm
                    rw [h9] at hb2
                    cases hb2
                clear hb1 hb2 hen
                go_wp2_with fail
                refine HIN.out.mono ?_
                rintro e w8 ⟨rfl, hw8⟩
                rw [hw8]
                clear hw8
                cases b1 with
                | true =>
                  go_wp2_with fail
                  go_roundw
                  case rel => exact ⟨n + 1, by omega, by rw [← HTX.out]; go_num, HS7.out⟩
                  case measure => rw [← HTX.out]; simp [intOf]; omega
                | false =>
                  cases b2 with
                  | true =>
                    go_wp2_with fail
                    go_roundw
                    case rel => exact ⟨n + 1, by omega, by rw [← HTX.out]; go_num, HS7.out⟩
                    case measure => rw [← HTX.out]; simp [intOf]; omega
                  | false =>
                    have hne : ¬ en = 3 := fun e => (HIB.out.elim (fun h => by cases h) fun h => h (HRT.out rfl e))
                    have hneb : (en == 3) = false := by simpa using hne
                    go_wp2_with fail
                    refine HENt.out.mono ?_
                    rintro e w9 ⟨rfl, hw9⟩
                    rw [hw9]
                    clear hw9
                    go_wp2_with fail
                    go_roundw
                    case rel => exact ⟨n + 1, by omega, by rw [← HTX.out]; go_num, HS7.out⟩
                    case measure => rw [← HTX.out]; simp [intOf]; omega
          · have hlt' : ¬ (n : Int) + 1 ≤ 6 := by omega
            go_wp2_with fail
            go_ret
            exact ⟨rfl, HSW.out.1⟩
  · have hev := errV_ne hc
    rw [outU_bad hc] at HRUN
    simp only at HRUN
    rw [hev] at HRUN
    obtain ⟨ce, hce⟩ : ∃ ce, (chk l).2 = ce := ⟨_, rfl⟩
    rw [hce] at HRUN
    clear hev hc hce HONE
    go_wp2_with fail
    refine (HRUN.out _ HB3.out).mono ?_
    rintro e w5 ⟨a1, a2, a3, rfl, h1, h2, h3, hro, hb5⟩
    obtain ⟨r1, s1, t1, rfl⟩ : ∃ ad n c, a1 = .slice ad n c := by obtain ⟨ad, _, _, cap, hv, _⟩ := h1; exact ⟨ad, _, cap, hv⟩
    obtain ⟨r2, s2, t2, rfl⟩ : ∃ ad n c, a2 = .slice ad n c := by obtain ⟨ad, _, _, cap, hv, _⟩ := h2; exact ⟨ad, _, cap, hv⟩
    obtain ⟨r3, s3, t3, rfl⟩ : ∃ ad n c, a3 = .slice ad n c := by obtain ⟨ad, _, _, cap, hv, _⟩ := h3; exact ⟨ad, _, cap, hv⟩
    have HB5 := hid_s (HST.out _ _ HB3.out hb5)
    have HB6 : Hid (∀ ob : Obj, Below w.heap.size w (w5.alloc ob)) := fun ob => HST.out _ _ HB5.out ((Below.refl _ w5).alloc (Nat.le_refl _) ob)
    clear h1 h2 h3 hro hb5
    go_wp2_with fail
    go_ret
    exact ⟨rfl, HB6.out _⟩
end Go.Proofs.Ytccjognnehoodah
