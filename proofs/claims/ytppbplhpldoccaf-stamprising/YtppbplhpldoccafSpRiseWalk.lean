/-
  PROVED HERE: lanelaw4.StampRising answers true, of any numbers, with and without leave, over whatever keeps StampC.
  Conditions: StampC.
-/
import Derived.Test.YtppbplhpldoccafStampAsk
import Derived.Test.YtppbplhpldoccafStampRise
import Derived.Test.YtppbplhpldoccafPieces
import Derived.Test.YtppbplhpldoccafSame
import Derived.Test.YtppbplhpldoccafLocksMem
import Derived.Deep.Cut
namespace Go.Proofs.Ytppbplhpldoccaf
open Go.RowKit

theorem hid_of5 {p : Prop} (h : p) : Hid p := h
theorem psL_up {n : Nat} (h : n ≤ 6) : psL ((upTo n).take 12) = upTo n := by
  rcases (show n = 0 ∨ n = 1 ∨ n = 2 ∨ n = 3 ∨ n = 4 ∨ n = 5 ∨ n = 6 by omega) with rfl | rfl | rfl | rfl | rfl | rfl | rfl <;> decide
theorem psL_down {n : Nat} (h : n ≤ 6) : psL ((downFrom n).take 12) = downFrom n := by
  rcases (show n = 0 ∨ n = 1 ∨ n = 2 ∨ n = 3 ∨ n = 4 ∨ n = 5 ∨ n = 6 by omega) with rfl | rfl | rfl | rfl | rfl | rfl | rfl <;> decide
theorem down_take {n j : Nat} (h : n ≤ 6) (hj : j < n) : (downFrom n).take (j + 1) = (downFrom n).take j ++ [(n : Int) - (j : Int)] := by
  rcases (show n = 1 ∨ n = 2 ∨ n = 3 ∨ n = 4 ∨ n = 5 ∨ n = 6 by omega) with rfl | rfl | rfl | rfl | rfl | rfl <;>
  rcases (show j = 0 ∨ j = 1 ∨ j = 2 ∨ j = 3 ∨ j = 4 ∨ j = 5 by omega) with rfl | rfl | rfl | rfl | rfl | rfl <;> first | (exfalso; omega) | decide
set_option maxHeartbeats 8000000 in
set_option maxRecDepth 100000 in
theorem sprise_out (n a b : Int) (leave : Bool) (w : World) (h : n < 0 ∨ 6 < n ∨ a < 1 ∨ 6 < a ∨ b < 1 ∨ 6 < b) :
    Calls Try.prog 4 #[.int .i64 n, .int .i64 a, .int .i64 b, .bool leave] w fun e w' => e = .returned (.bool true) ∧ Below w.heap.size w w' := by
  go_enter Try.func4, Try.ntmps4
  by_cases h1 : n < 0
  · clear h
    go_wp2_with fail
    go_ret
    exact ⟨rfl, Below.refl _ _⟩
  · by_cases h2 : 6 < n
    · clear h
      go_wp2_with fail
      go_ret
      exact ⟨rfl, Below.refl _ _⟩
    · by_cases h3 : a < 1
      · clear h
        go_wp2_with fail
        go_ret
        exact ⟨rfl, Below.refl _ _⟩
      · by_cases h4 : 6 < a
        · clear h
          go_wp2_with fail
          go_ret
          exact ⟨rfl, Below.refl _ _⟩
        · by_cases h5 : b < 1
          · clear h
            go_wp2_with fail
            go_ret
            exact ⟨rfl, Below.refl _ _⟩
          · have h6 : 6 < b := by omega
            clear h
            go_wp2_with fail
            go_ret
            exact ⟨rfl, Below.refl _ _⟩
set_option maxHeartbeats 16000000 in
set_option maxRecDepth 100000 in
theorem sprise_in (hS : StampC) (n : Nat) (a b : Int) (leave : Bool) (w : World) (hn6 : n ≤ 6) (ha : 1 ≤ a ∧ a ≤ 6) (hb : 1 ≤ b ∧ b ≤ 6) :
    Calls Try.prog 4 #[.int .i64 n, .int .i64 a, .int .i64 b, .bool leave] w fun e w' => e = .returned (.bool true) ∧ Below w.heap.size w w' := by
  obtain ⟨i0, hi, hz0, hs0, hy0⟩ := info_parts infoInt
  have HI : Hid (Try.prog.info? 3 = some i0 ∧ i0.zero = some (.int .i64 0) ∧ i0.size = 1 ∧ i0.bytes = 8) := ⟨hi, hz0, hs0, hy0⟩
  have HST : Hid (∀ W W', Below w.heap.size w W → Below W.heap.size W W' → Below w.heap.size w W') := fun W W' h1 h2 => h1.trans (h2.mono h1.size)
  have HP1 : Hid (∀ W u, IsInts W u (upTo n) → Calls Try.prog 9 #[u, .int .i64 a, .int .i64 b] W fun e w' => ∃ v1 x2 y2 z2, e = .returned (.tuple #[v1, .slice x2 y2 z2]) ∧ IsOps w' v1 (piecesL a b (upTo n)) ∧ Below W.heap.size W w') := fun W u hu => by
    refine (pieces_of (upTo n) u a b W hu (by rw [upTo_len]; omega)).mono ?_
    rintro e w' ⟨ps, ⟨hd, hps⟩, v1, v2, he, h1, h2, h3⟩
    rw [psL_up hn6] at hps
    subst hps
    obtain ⟨x2, _, _, z2, rfl, -⟩ := h2
    exact ⟨v1, _, _, _, he, h1, h3⟩
  have HP2 : Hid (∀ W u, IsInts W u (downFrom n) → Calls Try.prog 9 #[u, .int .i64 a, .int .i64 a] W fun e w' => ∃ v1 x2 y2 z2, e = .returned (.tuple #[v1, .slice x2 y2 z2]) ∧ IsOps w' v1 (piecesL a a (downFrom n)) ∧ Below W.heap.size W w') := fun W u hu => by
    refine (pieces_of (downFrom n) u a a W hu (by rw [downFrom_len]; omega)).mono ?_
    rintro e w' ⟨ps, ⟨hd, hps⟩, v1, v2, he, h1, h2, h3⟩
    rw [psL_down hn6] at hps
    subst hps
    obtain ⟨x2, _, _, z2, rfl, -⟩ := h2
    exact ⟨v1, _, _, _, he, h1, h3⟩
  have hdu : Deals1 (upTo n) := by
    refine ⟨fun x hx => ?_, ?_⟩
    · unfold upTo at hx
      obtain ⟨k, hk, rfl⟩ := List.mem_map.1 hx
      have := List.mem_range.1 hk
      omega
    · rcases (show n = 0 ∨ n = 1 ∨ n = 2 ∨ n = 3 ∨ n = 4 ∨ n = 5 ∨ n = 6 by omega) with rfl | rfl | rfl | rfl | rfl | rfl | rfl <;> decide
  have hdd : Deals1 (downFrom n) := ⟨fun x hx => hdu.deal x (List.mem_reverse.1 hx), by rcases (show n = 0 ∨ n = 1 ∨ n = 2 ∨ n = 3 ∨ n = 4 ∨ n = 5 ∨ n = 6 by omega) with rfl | rfl | rfl | rfl | rfl | rfl | rfl <;> decide⟩
  have HR1 : Hid (∀ W u, IsOps W u (piecesL a b (upTo n)) → Calls Try.prog 5 #[u, .bool leave] W fun e w' => ∃ v1 x2 z2, e = .returned (.tuple #[v1, .slice x2 0 z2, .nilIface]) ∧ IsOps w' v1 (piecesL a b (upTo n)) ∧ Below W.heap.size W w') := fun W u hu => by
    refine (hS _ u leave W hu).mono ?_
    rintro e w' ⟨v1, v2, he, h1, h2, h3⟩
    obtain ⟨k1, k2⟩ := stamp_up_all leave a b n
    rw [stampU_ok (pieces_chk ha hb hdu)] at he h1 h2
    rw [k2] at h1
    rw [k1.vict] at h2
    obtain ⟨x2, _, _, z2, rfl, -⟩ := h2
    exact ⟨v1, x2, z2, he, h1, h3⟩
  have HR2 : Hid (∀ W u, IsOps W u (piecesL a a (downFrom n)) → Calls Try.prog 5 #[u, .bool leave] W fun e w' => ∃ x1 y1 z1 x2 z2, e = .returned (.tuple #[.slice x1 y1 z1, .slice x2 (n - 1) z2, .nilIface]) ∧ Below W.heap.size W w') := fun W u hu => by
    refine (hS _ u leave W hu).mono ?_
    rintro e w' ⟨v1, v2, he, h1, h2, h3⟩
    rw [stampU_ok (pieces_chk ha ha hdd)] at he h1 h2
    obtain ⟨x1, _, _, z1, rfl, -⟩ := h1
    obtain ⟨x2, _, _, z2, rfl, -⟩ := h2
    rw [stamp_down n] at he
    exact ⟨_, _, _, _, _, he, h3⟩
  have HL : Hid ((piecesL a b (upTo n)).length ≤ 140737488351) := by show _ ≤ _; rw [pieces_len, upTo_len]; omega
  obtain ⟨a1, a6⟩ := ha
  obtain ⟨b1, b6⟩ := hb
  have na1 : ¬ a < 1 := by omega
  have na6 : ¬ 6 < a := by omega
  have nb1 : ¬ b < 1 := by omega
  have nb6 : ¬ 6 < b := by omega
  have nn0 : ¬ (n : Int) < 0 := by omega
  have nn6 : ¬ 6 < (n : Int) := by omega
  clear hS hi hz0 hs0 hy0 hdu hdd
  go_enter Try.func4, Try.ntmps4
  go_wp2_with fail
  go_loopw [9, 10] (fun v9 v10 wr => ∃ k : Nat, k ≤ n ∧ v10 = .int .i64 ((k : Int) + 1) ∧ wr.ownsRow w.heap.size 3 1 v9 k ((upTo k).map (Value.int .i64)) ∧ Below w.heap.size w wr) (fun _ v10 _ => n + 1 - (intOf v10).toNat)
  case atStart => exact ⟨0, Nat.zero_le _, rfl, World.ownsRow_nil _ _ _ _, Below.refl _ _⟩
  case round =>
    obtain ⟨k, hk, rfl, hown, hbel⟩ := hrel
    have HOW := hid_of5 hown
    have HB := hid_of5 hbel
    have hsz := hbel.size
    clear hown hbel
    by_cases hlt : k < n
    · have hlt' : (k : Int) + 1 ≤ (n : Int) := by omega
      go_wp2_with (at_builtin; refine wpList_append_own _ rfl (.tmp 45) (.tmp 47) 25 rfl w.heap.size 3 i0 (.int .i64 0) 1 8 Try.underlying25 HI.out.1 HI.out.2.1 HI.out.2.2.1 HI.out.2.2.2 rfl (by decide) u9 k ((upTo k).map (Value.int .i64)) rfl (HOW.out.alloc _) ⟨wr.heap.size, 0, none⟩ 1 1 [.int .i64 ((k : Int) + 1)] rfl rfl (cell_one_new _ _ _) (by simp [Value.oneCell']) (by unfold maxLen; omega) (by omega) (by simp; omega) ?_; intro v2 w2 hown2 hgr2 hnil2)
      have hB2 := (HB.out.alloc hsz _).grown hgr2 (by simp; omega) (fun m hm => (HOW.out.lt m hm).1)
      go_roundw
      case rel => exact ⟨k + 1, by omega, by go_num, by rw [upTo_succ, List.map_append]; exact hown2, hB2⟩
      case measure => simp [intOf]; omega
    · have hlt' : ¬ (k : Int) + 1 ≤ (n : Int) := by omega
      obtain rfl : k = n := by omega
      obtain ⟨x9, z9, rfl, -⟩ := own_slice3 HOW.out
      have HI9 := hid_of5 (isInts_own HOW.out (upTo_len k))
      obtain ⟨WR, hWR⟩ : ∃ W : World, W = wr := ⟨_, rfl⟩
      subst hWR
      go_wp2_with fail
      refine (HP1.out WR _ HI9.out).mono ?_
      rintro e w3 ⟨v1, x2, y2, z2, rfl, h1, hb3⟩
      obtain ⟨x1, y1, z1, rfl⟩ : ∃ ad n c, v1 = .slice ad n c := by obtain ⟨ad, _, _, cap, hv, _⟩ := h1; exact ⟨ad, _, cap, hv⟩
      have HH := hid_of5 h1
      have HB3 := hid_of5 (HST.out _ _ HB.out hb3)
      clear h1 hb3 HOW HI9 hsz HB
      go_wp2_with fail
      refine (HR1.out w3 _ HH.out).mono ?_
      rintro e w4 ⟨t1, x3, z3, rfl, h4, hb4⟩
      obtain ⟨x4, y4, z4, rfl⟩ : ∃ ad n c, t1 = .slice ad n c := by obtain ⟨ad, _, _, cap, hv, _⟩ := h4; exact ⟨ad, _, cap, hv⟩
      have HT := hid_of5 h4
      have HH4 := hid_of5 (HH.out.below hb4 (Nat.le_refl _))
      have HB4 := hid_of5 (HST.out _ _ HB3.out hb4)
      clear h4 hb4 HB3 HH
      go_wp2_with fail
      refine (same_ops (piecesL a b (upTo k)) _ _ w4 HT.out HH4.out HL.out).mono ?_
      rintro e w5 ⟨rfl, hb5⟩
      have HB5 := hid_of5 (HST.out _ _ HB4.out hb5)
      clear hb5 HB4 HT HH4
      go_wp2_with fail
      go_loopw [16, 17] (fun v16 v17 wr => ∃ j : Nat, j ≤ k ∧ v17 = .int .i64 ((k : Int) - (j : Int)) ∧ wr.ownsRow w.heap.size 3 1 v16 j (((downFrom k).take j).map (Value.int .i64)) ∧ Below w.heap.size w wr) (fun _ v17 _ => (intOf v17).toNat)
      case atStart => exact ⟨0, Nat.zero_le _, by simp, World.ownsRow_nil _ _ _ _, HB5.out⟩
      case round =>
        obtain ⟨j, hj, rfl, hown, hbel⟩ := hrel
        have HOW := hid_of5 hown
        have HB := hid_of5 hbel
        have hsz := hbel.size
        clear hown hbel
        obtain ⟨q, hq⟩ : ∃ q : Int, (k : Int) - (j : Int) = q := ⟨_, rfl⟩
        by_cases hjt : j < k
        · rw [hq]
          have hq1 : (1 : Int) ≤ q := by omega
          have HTK : Hid ((downFrom k).take (j + 1) = (downFrom k).take j ++ [q]) := by show _ = _; rw [down_take hn6 hjt, hq]
          have HQ := hid_of5 hq
          have hq6 : q ≤ 6 := by omega
          clear hq
          go_wp2_with (at_builtin; refine wpList_append_own _ rfl (.tmp 81) (.tmp 83) 25 rfl w.heap.size 3 i0 (.int .i64 0) 1 8 Try.underlying25 HI.out.1 HI.out.2.1 HI.out.2.2.1 HI.out.2.2.2 rfl (by decide) u16 j (((downFrom k).take j).map (Value.int .i64)) rfl (HOW.out.alloc _) ⟨wr.heap.size, 0, none⟩ 1 1 [.int .i64 q] rfl rfl (cell_one_new _ _ _) (by simp [Value.oneCell']) (by unfold maxLen; omega) (by omega) (by simp; omega) ?_; intro v2 w2 hown2 hgr2 hnil2)
          have hB2 := (HB.out.alloc hsz _).grown hgr2 (by simp; omega) (fun m hm => (HOW.out.lt m hm).1)
          go_roundw
          case rel => exact ⟨j + 1, by omega, by have := HQ.out; go_num, by rw [HTK.out, List.map_append]; exact hown2, hB2⟩
          case measure => have := HQ.out; simp [intOf]; omega
        · obtain rfl : j = k := by omega
          rw [hq]
          have hq0 : ¬ (1 : Int) ≤ q := by omega
          obtain ⟨x9', z9', rfl, -⟩ := own_slice3 HOW.out
          have HI9 : Hid (IsInts wr (.slice x9' j z9') (downFrom j)) := by
            have h1 := HOW.out
            rw [List.take_of_length_le (by rw [downFrom_len]; exact Nat.le_refl _)] at h1
            exact isInts_own h1 (downFrom_len j)
          clear hq
          go_wp2_with fail
          refine (HP2.out wr _ HI9.out).mono ?_
          rintro e w6 ⟨v1, x2', y2', z2', rfl, h1, hb6⟩
          obtain ⟨x1', y1', z1', rfl⟩ : ∃ ad n c, v1 = .slice ad n c := by obtain ⟨ad, _, _, cap, hv, _⟩ := h1; exact ⟨ad, _, cap, hv⟩
          have HH := hid_of5 h1
          have HB6 := hid_of5 (HST.out _ _ HB.out hb6)
          clear h1 hb6
          go_wp2_with fail
          refine (HR2.out w6 _ HH.out).mono ?_
          rintro e w7 ⟨x5, y5, z5, x6, z6, rfl, hb7⟩
          have HB7 := hid_of5 (HST.out _ _ HB6.out hb7)
          clear hb7
          by_cases hj2 : j < 2
          · have hj2' : (j : Int) < 2 := by omega
            have hj2d : decide ((j : Int) < 2) = true := decide_eq_true hj2'
            go_wp2_with fail
            go_ret
            exact ⟨rfl, HB7.out⟩
          · have hj2' : ¬ (j : Int) < 2 := by omega
            have hj2d : decide ((j : Int) < 2) = false := decide_eq_false hj2'
            obtain ⟨m, rfl⟩ : ∃ m, j = m + 1 := ⟨j - 1, by omega⟩
            have hsub : ((m + 1 : Nat) : Int) - 1 = (m : Int) := by omega
            go_wp2_with fail
            go_ret
            exact ⟨rfl, HB7.out⟩
theorem sprise_any (hS : StampC) (n a b : Int) (leave : Bool) (w : World) :
    Calls Try.prog 4 #[.int .i64 n, .int .i64 a, .int .i64 b, .bool leave] w fun e w' => e = .returned (.bool true) ∧ Below w.heap.size w w' := by
  by_cases h : n < 0 ∨ 6 < n ∨ a < 1 ∨ 6 < a ∨ b < 1 ∨ 6 < b
  · exact sprise_out n a b leave w h
  · obtain ⟨m, rfl⟩ : ∃ m : Nat, n = m := ⟨n.toNat, by omega⟩
    exact sprise_in hS m a b leave w (by omega) (by omega) (by omega)
end Go.Proofs.Ytppbplhpldoccaf
