/-
  PROVED HERE: lanelaw1.PlayDone returns true, whatever the list of ops; old memory stays as it was.
  Conditions: package play's contracts (ValuesOk, SeenOk), which the text that speaks of that package proves.
-/
import Derived.Test.YtgnbejemhdcemadPlayAsk2
import Derived.Test.YtgnbejemhdcemadPlayOnePlain
import Derived.Test.YtgnbejemhdcemadViewLast
import Derived.Test.YtgnbejemhdcemadSameInts
namespace Go.Proofs.Ytgnbejemhdcemad
open Go.RowKit

theorem fact_done : chk [(1, 2, 2), (1, 3, 0)] = (0, 0) ∧ valsL (doneL [(1, 2, 2), (1, 3, 0)]) = [0, 8, 0, 0, 0, 0] := by decide
theorem pair_ops_at (w : World) : OpsAt (w.alloc (.cells #[.int .i64 1, .int .i64 2, .int .i64 2, .int .i64 1, .int .i64 3, .int .i64 0] 24)) w.heap.size 0 [(1, 2, 2), (1, 3, 0)] := by
  intro i hi
  match i, hi with
  | 0, _ => simp
  | 1, _ => simp
theorem vals_fact (hVO : ValuesOk) (w : World) (b : Nat) (hb : b = w.heap.size) :
    Calls Try.prog 12 #[.slice (some ⟨b, 0, none⟩) 2 2] (w.alloc (.cells #[.int .i64 1, .int .i64 2, .int .i64 2, .int .i64 1, .int .i64 3, .int .i64 0] 24)) fun e w' => ∃ c off cap, e = .returned (.tuple #[.slice (some ⟨c, off, none⟩) 6 cap, .nilIface]) ∧ w'.cell? ⟨c, off, none⟩ = some (.int .i64 0) ∧ w'.cell? ⟨c, off + 1, none⟩ = some (.int .i64 8) ∧ Below w.heap.size w w' := by
  subst hb
  obtain ⟨f0, f1⟩ := fact_done
  have h1 := hVO [(1, 2, 2), (1, 3, 0)] (.slice (some ⟨w.heap.size, 0, none⟩) 2 2) _ ⟨some ⟨w.heap.size, 0, none⟩, w.heap.size, 0, 2, rfl, fun _ => rfl, fun h => (by cases h), .inl (by simp), pair_ops_at w⟩ (by rw [f0])
  rw [f1] at h1
  refine h1.mono ?_
  rintro e w' ⟨v', he, ⟨ad, c, off, cap, hv, hadr, -, -, hcel⟩, hb'⟩
  refine ⟨c, off, cap, ?_, hcel 0 (by decide), hcel 1 (by decide), ((Below.refl _ w).alloc (Nat.le_refl _) _).trans (hb'.mono (by simp))⟩
  rw [he, hv, hadr (by decide)]
  rfl
/-- An item that nobody wrote last is nought. -/
theorem last_nought {d : List Op3} (hop : ∀ o ∈ d, isOpB o = true) {x : Int} (h : (lastW d d.length x).1.1 = 0) : valTo d d.length x = 0 := by
  cases hw : wrTo d x d.length with
  | none => exact valTo_none hw
  | some j =>
    rw [lastW_some hw] at h
    have := isOp_tx (hop _ (opAt_mem (wrTo_some hw).1))
    unfold nameAt at h
    simp only at h
    omega
theorem lastI_at (d : List Op3) {i : Nat} (hi : i < 6) : (lastI d d.length 6).getD i 0 = (lastW d d.length ((i : Int) + 1)).1.1 := by
  unfold lastI
  simp [List.getD, hi]
set_option maxHeartbeats 4000000 in
theorem pdone_bad (hVO : ValuesOk) (l : List Op3) (v : Value) (w : World) (h : IsOps w v l) (hc : (chk l).2 ≠ 0) :
    Calls Try.prog 4 #[v] w fun e w' => e = .returned (.bool true) ∧ Below w.heap.size w w' := by
  have HD : Hid (∀ W, Below w.heap.size w W → Calls Try.prog 15 #[v] W fun e w' => e = .returned (.tuple #[.slice none 0 0, .iface 75 (.int .i64 (chk l).2)]) ∧ Below W.heap.size W w') := fun W hW => done_bad l v W (h.below hW (Nat.le_refl _)) hc
  obtain ⟨n, hn⟩ : ∃ n, (chk l).2 = n := ⟨_, rfl⟩
  rw [hn] at HD
  have HV : Hid ValuesOk := hVO
  clear h hc hn hVO
  go_enter Try.func4, Try.ntmps4
  go_wp2_with fail
  refine (vals_fact HV.out _ _ (by simp)).mono ?_
  rintro e w1 ⟨c, off, cap, rfl, c0, c1, hb1⟩
  have HB1 : Hid (Below w.heap.size w w1) := hb1
  clear hb1
  go_wp2_with fail
  refine (HD.out w1 HB1.out).mono ?_
  rintro e w2 ⟨rfl, hb2⟩
  have HB2 : Hid (Below w.heap.size w w2) := HB1.out.trans (hb2.mono HB1.out.size)
  clear hb2
  go_wp2_with fail
  go_ret
  exact ⟨rfl, HB2.out⟩
set_option maxHeartbeats 8000000 in
set_option maxRecDepth 100000 in
theorem pdone_ok (hVO : ValuesOk) (hSO : SeenOk) (l : List Op3) (v : Value) (w : World) (h : IsOps w v l) (hc : (chk l).2 = 0) :
    Calls Try.prog 4 #[v] w fun e w' => e = .returned (.bool true) ∧ Below w.heap.size w w' := by
  have HI : Hid (∀ W, Below w.heap.size w W → IsOps W v l) := fun W hW => h.below hW (Nat.le_refl _)
  have hcd := chk_done hc
  have HD : Hid (∀ W, Below w.heap.size w W → Calls Try.prog 15 #[v] W fun e w' => ∃ v', e = .returned (.tuple #[v', .nilIface]) ∧ IsOps w' v' (doneL l) ∧ Below W.heap.size W w') := fun W hW => done_ok l v W (HI.out W hW) hc
  have HVA : Hid (∀ W, Below w.heap.size w W → Calls Try.prog 12 #[v] W fun e w' => ∃ v', e = .returned (.tuple #[v', .nilIface]) ∧ IsInts w' v' (valsL (doneL l)) ∧ Below W.heap.size W w') := fun W hW => hVO l v W (HI.out W hW) hc
  have HVD : Hid (∀ W u, IsOps W u (doneL l) → Calls Try.prog 12 #[u] W fun e w' => ∃ v', e = .returned (.tuple #[v', .nilIface]) ∧ IsInts w' v' (valsL (doneL l)) ∧ Below W.heap.size W w') := fun W u hu => by
    have h1 := hVO (doneL l) u W hu hcd
    rw [done_done] at h1
    exact h1
  have HSA : Hid (∀ W, Below w.heap.size w W → Calls Try.prog 16 #[v] W fun e w' => ∃ v', e = .returned (.tuple #[v', .nilIface]) ∧ IsInts w' v' (seenTo (doneL l) (doneL l).length) ∧ Below W.heap.size W w') := fun W hW => hSO l v W (HI.out W hW) hc
  have HSD : Hid (∀ W u, IsOps W u (doneL l) → Calls Try.prog 16 #[u] W fun e w' => ∃ v', e = .returned (.tuple #[v', .nilIface]) ∧ IsInts w' v' (seenTo (doneL l) (doneL l).length) ∧ Below W.heap.size W w') := fun W u hu => by
    have h1 := hSO (doneL l) u W hu hcd
    rw [done_done] at h1
    exact h1
  have HLA : Hid (∀ W, Below w.heap.size w W → Calls Try.prog 17 #[v] W fun e w' => ∃ v', e = .returned (.tuple #[v', .nilIface]) ∧ IsInts w' v' (lastI (doneL l) (doneL l).length 6) ∧ Below W.heap.size W w') := fun W hW => vlast_ok l v W (HI.out W hW) hc
  have HST : Hid (∀ W W', Below w.heap.size w W → Below W.heap.size W W' → Below w.heap.size w W') := fun W W' h1 h2 => h1.trans (h2.mono h1.size)
  have HLE : Hid ((seenTo (doneL l) (doneL l).length).length ≤ 140737488351 ∧ (valsL (doneL l)).length ≤ 140737488351) := by
    refine ⟨?_, vals_few _⟩
    have h1 := seenTo_len (doneL l) (doneL l).length
    have h2 := chk_len hcd
    omega
  have HV : Hid ValuesOk := hVO
  obtain ⟨d, hd⟩ : ∃ d, doneL l = d := ⟨_, rfl⟩
  rw [hd] at HD HVA HVD HSA HSD HLA HLE hcd
  have HOP : Hid (∀ o ∈ d, isOpB o = true) := chk_ops hcd
  clear h hc hd hVO hSO hcd
  go_enter Try.func4, Try.ntmps4
  go_wp2_with fail
  refine (vals_fact HV.out _ _ (by simp)).mono ?_
  rintro e w1 ⟨c, off, cap, rfl, c0, c1, hb1⟩
  have HB1 : Hid (Below w.heap.size w w1) := hb1
  clear hb1
  go_wp2_with fail
  clear c0 c1
  refine (HD.out w1 HB1.out).mono ?_
  rintro e w2 ⟨dv, rfl, hd2, hb2⟩
  have HB2 : Hid (Below w.heap.size w w2) := HST.out _ _ HB1.out hb2
  have HD2 : Hid (IsOps w2 dv d) := hd2
  clear hb2 hd2
  go_wp2_with fail
  refine (HVA.out w2 HB2.out).mono ?_
  rintro e w3 ⟨v3, rfl, h3, hb3⟩
  have HB3 : Hid (Below w.heap.size w w3) := HST.out _ _ HB2.out hb3
  have HD3 : Hid (IsOps w3 dv d ∧ IsInts w3 v3 (valsL d)) := ⟨HD2.out.below hb3 (Nat.le_refl _), h3⟩
  clear hb3 h3
  go_wp2_with fail
  refine (HVD.out w3 dv HD3.out.1).mono ?_
  rintro e w4 ⟨v4, rfl, h4, hb4⟩
  have HB4 : Hid (Below w.heap.size w w4) := HST.out _ _ HB3.out hb4
  have HD4 : Hid (IsOps w4 dv d ∧ IsInts w4 v3 (valsL d) ∧ IsInts w4 v4 (valsL d)) := ⟨HD3.out.1.below hb4 (Nat.le_refl _), HD3.out.2.below hb4 (Nat.le_refl _), h4⟩
  clear hb4 h4
  go_wp2_with fail
  refine (HSA.out w4 HB4.out).mono ?_
  rintro e w5 ⟨v5, rfl, h5, hb5⟩
  have HB5 : Hid (Below w.heap.size w w5) := HST.out _ _ HB4.out hb5
  have HD5 : Hid (IsOps w5 dv d ∧ IsInts w5 v3 (valsL d) ∧ IsInts w5 v4 (valsL d) ∧ IsInts w5 v5 (seenTo d d.length)) := ⟨HD4.out.1.below hb5 (Nat.le_refl _), HD4.out.2.1.below hb5 (Nat.le_refl _), HD4.out.2.2.below hb5 (Nat.le_refl _), h5⟩
  clear hb5 h5
  go_wp2_with fail
  refine (HSD.out w5 dv HD5.out.1).mono ?_
  rintro e w6 ⟨v6, rfl, h6, hb6⟩
  have HB6 : Hid (Below w.heap.size w w6) := HST.out _ _ HB5.out hb6
  have HD6 : Hid (IsInts w6 v3 (valsL d) ∧ IsInts w6 v4 (valsL d) ∧ IsInts w6 v5 (seenTo d d.length) ∧ IsInts w6 v6 (seenTo d d.length)) := ⟨HD5.out.2.1.below hb6 (Nat.le_refl _), HD5.out.2.2.1.below hb6 (Nat.le_refl _), HD5.out.2.2.2.below hb6 (Nat.le_refl _), h6⟩
  clear hb6 h6
  go_wp2_with fail
  refine (HLA.out w6 HB6.out).mono ?_
  rintro e w7 ⟨v7, rfl, h7, hb7⟩
  have HB7 : Hid (Below w.heap.size w w7) := HST.out _ _ HB6.out hb7
  have HD7 : Hid (IsInts w7 v3 (valsL d) ∧ IsInts w7 v4 (valsL d) ∧ IsInts w7 v5 (seenTo d d.length) ∧ IsInts w7 v6 (seenTo d d.length) ∧ IsInts w7 v7 (lastI d d.length 6)) := ⟨HD6.out.1.below hb7 (Nat.le_refl _), HD6.out.2.1.below hb7 (Nat.le_refl _), HD6.out.2.2.1.below hb7 (Nat.le_refl _), HD6.out.2.2.2.below hb7 (Nat.le_refl _), h7⟩
  clear hb7 h7 HB1 HB2 HB3 HB4 HB5 HB6 HD2 HD3 HD4 HD5 HD6 HD HVA HVD HSA HSD HLA
  obtain ⟨ad3, b3, off3, cap3, hv3, hadr3, -, hbB3, hcel3⟩ := HD7.out.1
  obtain ⟨ad7, b7, off7, cap7, hv7, hadr7, -, hbB7, hcel7⟩ := HD7.out.2.2.2.2
  rw [valsL_len, hadr3 (by rw [valsL_len]; decide)] at hv3
  rw [lastI_len, hadr7 (by rw [lastI_len]; decide)] at hv7
  subst hv3
  subst hv7
  have hB3 : b3 < w7.heap.size := by
    rcases hbB3 with h | h
    · exact h
    · have := valsL_len d; rw [h] at this; cases this
  have hB7 : b7 < w7.heap.size := by
    rcases hbB7 with h | h
    · exact h
    · have := lastI_len d d.length 6; rw [h] at this; cases this
  have HC3 : Hid (∀ i, i < 6 → w7.cell? ⟨b3, off3 + i, none⟩ = some (.int .i64 (valTo d d.length ((i : Int) + 1)))) := fun i hi => by
    have h1 := hcel3 i (by rw [valsL_len]; exact hi)
    rw [valsL_at d hi] at h1
    exact h1
  have HC7 : Hid (∀ i, i < 6 → w7.cell? ⟨b7, off7 + i, none⟩ = some (.int .i64 (lastW d d.length ((i : Int) + 1)).1.1)) := fun i hi => by
    have h1 := hcel7 i (by rw [lastI_len]; exact hi)
    rw [lastI_at d hi] at h1
    exact h1
  clear hadr3 hbB3 hcel3 hadr7 hbB7 hcel7
  go_wp2_with fail
  refine (same_ints (valsL d) _ _ _ HD7.out.1 HD7.out.2.1 HLE.out.2).mono ?_
  rintro e w8 ⟨rfl, hb8⟩
  have HB8 : Hid (Below w7.heap.size w7 w8) := hb8
  clear hb8
  go_wp2_with fail
  refine (same_ints (seenTo d d.length) _ _ _ (HD7.out.2.2.1.below HB8.out (Nat.le_refl _)) (HD7.out.2.2.2.1.below HB8.out (Nat.le_refl _)) HLE.out.1).mono ?_
  rintro e w9 ⟨rfl, hb9⟩
  have HB9 : Hid (Below w7.heap.size w7 w9) := HB8.out.trans (hb9.mono HB8.out.size)
  clear hb9
  go_wp2_with fail
  go_loopw [18] (fun v18 wr => ∃ i : Nat, i ≤ 6 ∧ v18 = .int .i64 i ∧ wr = w9) (fun v18 _ => 6 - (intOf v18).toNat)
  case atStart => exact ⟨0, by omega, rfl, rfl⟩
  case round =>
    obtain ⟨i, hi, rfl, rfl⟩ := hrel
    by_cases hlt : i < 6
    · have hlt' : (i : Int) < 6 := by omega
      have c3 := (HB9.out.cell (p := ⟨b3, off3 + i, none⟩) hB3).trans (HC3.out i hlt)
      have c7 := (HB9.out.cell (p := ⟨b7, off7 + i, none⟩) hB7).trans (HC7.out i hlt)
      have hbd := valTo_bound d d.length ((i : Int) + 1)
      have hnn := last_nought HOP.out (x := (i : Int) + 1)
      obtain ⟨p, hp⟩ : ∃ p, valTo d d.length ((i : Int) + 1) = p := ⟨_, rfl⟩
      obtain ⟨q, hq⟩ : ∃ q, (lastW d d.length ((i : Int) + 1)).1.1 = q := ⟨_, rfl⟩
      rw [hp] at c3 hbd hnn
      rw [hq] at c7 hnn
      obtain ⟨hp0, hp1⟩ := hbd
      clear hp hq
      by_cases hq0 : q = 0
      · have hpz := hnn hq0
        subst hq0
        subst hpz
        clear hnn
        go_wp2_with fail
        go_roundw
        case rel => exact ⟨i + 1, by omega, by go_num, trivial⟩
        case measure => simp [intOf]; omega
      · have hq' : (q == 0) = false := by simpa using hq0
        clear hnn hq0
        have hp0' : ¬ p < 0 := by omega
        have hp1' : ¬ 1000003 ≤ p := by omega
        go_wp2_with fail
        go_roundw
        case rel => exact ⟨i + 1, by omega, by go_num, trivial⟩
        case measure => simp [intOf]; omega
    · have hlt' : ¬ (i : Int) < 6 := by omega
      go_wp2_with fail
      go_ret
      exact ⟨rfl, HB7.out.trans (HB9.out.mono HB7.out.size)⟩
end Go.Proofs.Ytgnbejemhdcemad
