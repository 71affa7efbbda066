/-
  PROVED HERE: odds.Same tells of two right lists whether they have the same names, and no two that are at odds stand in another order; of any other the first one's error of Check. Old memory stays as it was.
  Conditions: none.
-/
import Derived.Test.YtjaeaanpbdmfgaaDoorOddFind
import Derived.Test.YtjaeaanpbdmfgaaDoorSamePlain
import Derived.Test.YtjaeaanpbdmfgaaDoorOddFunc2
namespace Go.Proofs.YtjaeaanpbdmfgaaDoor
open Go.RowKit

set_option maxHeartbeats 2000000 in
theorem same1_any (ts : List Int) (tv : Value) (c i j : Nat) (w : World) (hI : IsInts w tv ts) (hl : ts.length ≤ 40) (h1 : w.cell? ⟨c, 0, none⟩ = some tv) (hi : i < ts.length) (hj : j < ts.length) :
    Calls Tryd.prog 57 #[.agg #[.int .i64 i, .int .i64 j], .pointer (some ⟨c, 0, none⟩)] w fun e w' => e = .returned (.bool (decide (ts.getD j 0 < ts.getD i 0))) ∧ Below w.heap.size w w' := by
  have b1 := World.block_lt_of_cell? w _ h1
  simp only at b1
  obtain ⟨ad, b, off, cap, rfl, ha, _, hbB, hops⟩ := hI
  obtain rfl := ha (by omega)
  have c0 := hops i hi
  have d0 := hops j hj
  have bb := World.block_lt_of_cell? w _ c0
  simp only at bb
  obtain ⟨x, hx⟩ : ∃ x, ts.getD i 0 = x := ⟨_, rfl⟩
  obtain ⟨y, hy⟩ : ∃ y, ts.getD j 0 = y := ⟨_, rfl⟩
  rw [hx] at c0
  rw [hy] at d0
  rw [hx, hy]
  clear ha hbB hops hx hy
  go_enter Tryd.func57, Tryd.ntmps57
  go_wp2_with fail
  go_quiet (fail)
  go_wp2
  go_ret
  exact ⟨rfl, below_drewN ((Below.refl _ w).alloc (Nat.le_refl _) _) _⟩

theorem same_bad (h : List Op3) (v u : Value) (w : World) (hI : IsOps w v h) (hc : (chk h).2 ≠ 0) :
    Calls Tryd.prog 33 #[v, u] w fun e w' => e = .returned (.tuple #[.bool false, .iface 67 (.int .i64 (chk h).2)]) ∧ Below w.heap.size w w' := by
  go_enter Tryd.func33, Tryd.ntmps33
  go_wp2_with (go_at_call 9; refine (check_bad h _ _ hI hc).mono ?_; rintro e w1 ⟨rfl, hb1⟩)
  go_ret2
  exact ⟨rfl, hb1⟩
theorem same_bad2 (h g : List Op3) (v u : Value) (w : World) (hI : IsOps w v h) (hJ : IsOps w u g) (hc : (chk h).2 = 0) (hd : (chk g).2 ≠ 0) :
    Calls Tryd.prog 33 #[v, u] w fun e w' => e = .returned (.tuple #[.bool false, .iface 67 (.int .i64 (chk g).2)]) ∧ Below w.heap.size w w' := by
  go_enter Tryd.func33, Tryd.ntmps33
  go_wp2_with fail
  refine (check_ok h _ _ hI hc).mono ?_
  rintro e w1 ⟨rfl, hb1⟩
  go_wp2_with fail
  refine (check_bad g _ _ (hJ.below hb1 (Nat.le_refl _)) hd).mono ?_
  rintro e w2 ⟨rfl, hb2⟩
  go_wp2
  go_ret2
  exact ⟨rfl, hb1.trans (hb2.mono hb1.size)⟩
set_option maxHeartbeats 4000000 in
theorem same_ok (h g : List Op3) (v u : Value) (w : World) (hI : IsOps w v h) (hJ : IsOps w u g) (hc : (chk h).2 = 0) (hd : (chk g).2 = 0) :
    Calls Tryd.prog 33 #[v, u] w fun e w' => e = .returned (.tuple #[.bool (sameB h g), .nilIface]) ∧ Below w.heap.size w w' := by
  have HC : Hid ((chk h).2 = 0 ∧ (chk g).2 = 0) := ⟨hc, hd⟩
  go_enter Tryd.func33, Tryd.ntmps33
  go_wp2_with fail
  refine (check_ok h _ _ hI hc).mono ?_
  rintro e w1 ⟨rfl, hb1⟩
  go_wp2_with fail
  refine (check_ok g _ _ (hJ.below hb1 (Nat.le_refl _)) hd).mono ?_
  rintro e w2 ⟨rfl, hb2⟩
  have hb02 := hb1.trans (hb2.mono hb1.size)
  have hI2 := hI.below hb02 (Nat.le_refl _)
  have hJ2 := hJ.below hb02 (Nat.le_refl _)
  clear hb1 hb2
  go_wp2_with fail
  by_cases heq : h.length = g.length
  · refine (find_any h g _ _ _ hI2 hJ2 heq hc hd).mono ?_
    rintro e w3 ⟨⟨hnm, v3, rfl, hT3⟩ | ⟨hno, rfl⟩, hb3⟩
    · have HY : Hid (sameB h g = !(pairsL h).any (turnedB h g)) := sameB_yes ⟨heq, hnm⟩
      have hb03 := hb02.trans (hb3.mono hb02.size)
      have hI3 := hI2.below hb3 (Nat.le_refl _)
      have hl := chk_len hc
      have HV : Hid (∃ ad n c, v3 = .slice ad n c) := by obtain ⟨ad, b, off, cap, rfl, _⟩ := hT3; exact ⟨_, _, _, rfl⟩
      obtain ⟨ad3, n3, cap3, rfl⟩ := HV.out
      clear HV heq hnm hb3 hI2 hJ2 hI hJ hc hd
      go_wp2_with fail
      have hA : Below w3.heap.size w3 (w3.alloc (.cells #[.slice ad3 n3 cap3] 30)) := (Below.refl _ w3).alloc (Nat.le_refl _) _
      refine (pairs_any h _ _ (hI3.below hA (Nat.le_refl _)) hl).mono ?_
      rintro e w4 ⟨v4, rfl, hE4, hb4⟩
      have hT4 := (hT3.below hA (Nat.le_refl _)).below hb4 (Nat.le_refl _)
      have hc4 : w4.cell? ⟨w3.heap.size, 0, none⟩ = some (.slice ad3 n3 cap3) := by rw [hb4.cell (p := ⟨w3.heap.size, 0, none⟩) (by simp)]; simp
      have hb04 := (hb03.alloc hb03.size (.cells #[.slice ad3 n3 cap3] 30)).trans (hb4.mono (by have := hb03.size; simp; omega))
      have hlt4 : w3.heap.size < w4.heap.size := World.block_lt_of_cell? w4 _ hc4
      have HP : Hid (Calls Tryd.prog 51 #[v4, .func (.func 57) #[] #[.pointer (some ⟨w3.heap.size, 0, none⟩)]] w4 fun r w' => r = .returned (.bool ((pairsL h).any (turnedB h g))) ∧ Below w4.heap.size w4 w') := by
        refine contains_same (pairsL h) v4 (turnedB h g) _ w4 hE4 (by have := pairsL_len h hl; omega) ?_
        intro W hW e he
        obtain ⟨i, j, hij, hj, _, rfl⟩ := mem_pairs.1 he
        have hs := same1_any ((List.range h.length).map fun i => (spot h g i : Int)) (.slice ad3 n3 cap3) w3.heap.size i j W (hT4.below hW (Nat.le_refl _)) (by simpa using hl) ((hW.cell (p := ⟨w3.heap.size, 0, none⟩) hlt4).trans hc4) (by simp; omega) (by simpa using hj)
        have e1 : ((List.range h.length).map fun i => (spot h g i : Int)).getD i 0 = spot h g i := by simp [List.getD, show i < h.length by omega]
        have e2 : ((List.range h.length).map fun i => (spot h g i : Int)).getD j 0 = spot h g j := by simp [List.getD, hj]
        rw [e1, e2] at hs
        have e3 : turnedB h g ((i : Int), (j : Int)) = decide ((spot h g j : Int) < (spot h g i : Int)) := by simp [turnedB]
        rw [e3]
        exact hs
      clear hE4 hT4 hc4 hI3 hT3 hA hb4
      go_wp2_with fail
      refine HP.out.mono ?_
      rintro e w5 ⟨rfl, hb5⟩
      go_wp2
      all_goals go_ret2
      all_goals exact ⟨by rw [HY.out]; rfl, hb04.trans (hb5.mono hb04.size)⟩
    · have HN : Hid (sameB h g = false) := sameB_no fun hh => hno hh.2
      go_wp2
      go_ret2
      exact ⟨by rw [HN.out]; rfl, (hb02.trans (hb3.mono hb02.size)).alloc (by have := hb3.size; have := hb02.size; omega) _⟩
  · refine (find_len h g _ _ _ hI2 hJ2 heq).mono ?_
    rintro e w3 ⟨rfl, hw3⟩
    rw [hw3]; clear hw3
    have HN : Hid (sameB h g = false) := sameB_no fun hh => heq hh.1
    go_wp2
    go_ret2
    exact ⟨by rw [HN.out]; rfl, hb02.alloc hb02.size _⟩
end Go.Proofs.YtjaeaanpbdmfgaaDoor
