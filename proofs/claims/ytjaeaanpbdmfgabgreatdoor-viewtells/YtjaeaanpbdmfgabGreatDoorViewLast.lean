/-
  PROVED HERE: view.Last gives who wrote each item last, of what is done; of a wrong list Check's error. Old memory stays as it was.
  Conditions: none.
-/
import Derived.Test.YtjaeaanpbdmfgabGreatDoorViewReads
namespace Go.Proofs.YtjaeaanpbdmfgabGreatDoor
open Go.RowKit Go.Maps

/-- Who wrote each item last. -/
def lastI (d : List Op3) (k j : Nat) : List Int := (List.range j).map fun (i : Nat) => (lastW d k ((i : Int) + 1)).1.1
theorem lastI_succ (d : List Op3) (k j : Nat) : lastI d k (j + 1) = lastI d k j ++ [(lastW d k ((j : Int) + 1)).1.1] := by
  unfold lastI
  rw [List.range_succ, List.map_append]; rfl
theorem lastI_len (d : List Op3) (k j : Nat) : (lastI d k j).length = j := by simp [lastI]
theorem vlast_bad (l : List Op3) (v : Value) (w : World) (h : IsOps w v l) (hc : (chk l).2 ≠ 0) :
    Calls Tryz.prog 21 #[v] w fun e w' => e = .returned (.tuple #[.slice none 0 0, .iface 58 (.int .i64 (chk l).2)]) ∧ Below w.heap.size w w' := by
  go_enter Tryz.func21, Tryz.ntmps21
  go_wp2_with (go_at_call 42; refine (dnames_bad l _ _ h hc).mono ?_; rintro e w1 ⟨rfl, hb1⟩)
  go_ret2
  exact ⟨rfl, hb1⟩

set_option maxHeartbeats 8000000 in
set_option maxRecDepth 100000 in
theorem vlast_ok (l : List Op3) (v : Value) (w : World) (h : IsOps w v l) (hc : (chk l).2 = 0) :
    Calls Tryz.prog 21 #[v] w fun e w' => ∃ v', e = .returned (.tuple #[v', .nilIface]) ∧ IsInts w' v' (lastI (doneL l) (doneL l).length 6) ∧ Below w.heap.size w w' := by
  have hdn := dnames_ok l v w h hc
  have hcd := chk_done hc
  obtain ⟨d, hd⟩ : ∃ d, doneL l = d := ⟨_, rfl⟩
  rw [hd] at hdn hcd ⊢
  have hl := chk_len hcd
  have HOP : Hid (∀ o ∈ d, isOpB o = true) := chk_ops hcd
  have HDN : Hid (Calls Tryz.prog 42 #[v] w fun e w' => ∃ v', e = .returned (.tuple #[v', .nilIface]) ∧ IsNames w' v' (namesTo d d.length) ∧ Below w.heap.size w w') := hdn
  obtain ⟨i0, hi, hz0, hs0, hy0⟩ := info_parts infoInt
  have HI : Hid (Tryz.prog.info? 3 = some i0 ∧ i0.zero = some (.int .i64 0) ∧ i0.size = 1 ∧ i0.bytes = 8) := ⟨hi, hz0, hs0, hy0⟩
  clear hdn hcd hd h hc hi hz0 hs0 hy0
  go_enter Tryz.func21, Tryz.ntmps21
  go_wp2_with fail
  refine HDN.out.mono ?_
  rintro e w1 ⟨v1, rfl, hN1, hb1⟩
  obtain ⟨ad, cap, rfl⟩ := isNames_len hN1
  have HN1 : Hid (IsNames w1 (.slice ad d.length cap) (namesTo d d.length)) := hN1
  clear hN1
  go_wp2_with fail
  refine (look_any d _ _ HN1.out hl HOP.out).mono ?_
  rintro e w2 ⟨M, D, rfl, -, -, hb2⟩
  have HB2 : Hid (Below w.heap.size w w2) := hb1.trans (hb2.mono hb1.size)
  have HF2 : Hid ((w2.alloc (.cells zero29 83)).heap[w2.heap.size]? = some (.cells zero29 83 (0, 0))) := heap_alloc_new _ _
  clear hb1 hb2 HN1
  go_upto_region 5 with (first | refine wpList_store_row rfl 83 (.tmp 6) (.tmp 18) rfl w2.heap.size (cells29 M (lastF d d.length)) rfl rfl 83 zero29 HF2.out (sight_info' _ _) (by rw [cells29_size, zero29_size]) (cells29_one _ _) ?_ | fail)
  refine sight_split w2 _ _ _ rfl ?_
  intro W hSW hBW
  have HS : Hid (SightAt W w2.heap.size M (lastF d d.length)) := hSW
  have HB : Hid (Below w.heap.size w W) := HB2.out.trans (hBW.mono HB2.out.size)
  have hSl := HS.out.lt
  clear hSW hBW HF2 HB2
  go_wp2_with fail
  go_loopw [7, 8] (fun v7 v8 wr => ∃ m n : Nat, m = n + 1 ∧ n ≤ 6 ∧ v8 = .int .i64 m ∧ wr.ownsRow W.heap.size 3 1 v7 n ((lastI d d.length n).map (Value.int .i64)) ∧ Below W.heap.size W wr) (fun _ v8 _ => 8 - (intOf v8).toNat)
  case atStart => exact ⟨1, 0, rfl, by omega, rfl, World.ownsRow_nil _ _ _ _, Below.refl _ _⟩
  case round =>
    obtain ⟨m, n, hm, hn, rfl, hown, hbel⟩ := hrel
    have hsz := hbel.size
    by_cases hlt : n < 6
    · have hlt' : (m : Int) ≤ 6 := by omega
      have hlt7 : (m : Int) < 7 := by omega
      have c0 := (HS.out.below hbel hSl).cell (k := m * 4) (by omega)
      rw [show m * 4 / 4 = m by omega, show m * 4 % 4 = 0 by omega] at c0
      obtain ⟨s, hs⟩ : ∃ s, (lastW d d.length ((n : Int) + 1)).1.1 = s := ⟨_, rfl⟩
      have c1 : wr.cell? ⟨w2.heap.size, 1 + m * 4, none⟩ = some (.int .i64 s) := by
        rw [c0, ← hs]
        show some (Value.int .i64 (lastW d d.length ((m : Nat) : Int)).1.1) = _
        rw [show ((m : Nat) : Int) = (n : Int) + 1 by omega]
      have HL : Hid (lastI d d.length (n + 1) = lastI d d.length n ++ [s]) := by rw [← hs]; exact lastI_succ _ _ _
      have HOWN : Hid (wr.ownsRow W.heap.size 3 1 u7 n ((lastI d d.length n).map (Value.int .i64))) := hown
      have HMN : Hid (m = n + 1) := hm
      have hn5 : n ≤ 5 := by omega
      clear c0 hs hown hm
      go_wp2_with (at_builtin; refine wpList_append_own _ rfl (.tmp 23) (.tmp 30) 23 rfl W.heap.size 3 i0 (.int .i64 0) 1 8 Tryz.underlying23 HI.out.1 HI.out.2.1 HI.out.2.2.1 HI.out.2.2.2 rfl (by decide) u7 n ((lastI d d.length n).map (Value.int .i64)) rfl (HOWN.out.alloc _) ⟨wr.heap.size, 0, none⟩ 1 1 [.int .i64 s] rfl rfl (cell_one_new _ _ _) (by simp [Value.oneCell']) (by unfold maxLen; omega) (by omega) (by simp; omega) ?_; intro v4 w4 hown4 hgr4 hnil4)
      have hB4 := (hbel.alloc hsz _).grown hgr4 (by simp; omega) (fun q hq => (HOWN.out.lt q hq).1)
      go_roundw
      case rel => exact ⟨m + 1, n + 1, by rw [HMN.out], by omega, by go_num, by rw [HL.out, List.map_append]; exact hown4, hB4⟩
      case measure => simp [intOf]; omega
    · have hlt' : ¬ (m : Int) ≤ 6 := by omega
      obtain rfl : n = 6 := by omega
      have HE : Hid (IsInts wr u7 (lastI d d.length 6)) := isInts_own hown (lastI_len _ _ _)
      clear hown
      go_wp2_with fail
      go_ret2
      exact ⟨_, rfl, HE.out, HB.out.trans (hbel.mono HB.out.size)⟩
end Go.Proofs.YtjaeaanpbdmfgabGreatDoor
