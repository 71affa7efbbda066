/-
  PROVED HERE: laneref1.Ways tells of right edges from whom to whom there is a way. Old memory stays as it was.
  Conditions: none.
-/
import Derived.Test.YtjaeaanpbdmfgabDoorMatT
import Derived.Test.YtjaeaanpbdmfgabDoorWaysPlain
import Derived.Test.YtjaeaanpbdmfgabDoorGraphSteps
namespace Go.Proofs.YtjaeaanpbdmfgabDoor
open Go.RowKit

theorem mat40_info (s : Step7) : (Tryd.prog.info? 40).map (·.size) = some (cells49 s).size := by rw [cells49_size]; kernel_rfl

set_option maxHeartbeats 8000000 in
set_option maxRecDepth 100000 in
theorem refWays_any (l : List Edge2) (v : Value) (w : World) (hI : IsEdges w v l) (hd : ∀ e ∈ l, (1 ≤ e.1 ∧ e.1 ≤ 6) ∧ (1 ≤ e.2 ∧ e.2 ≤ 6)) (hl : l.length ≤ 60) :
    Calls Tryd.prog 16 #[v] w fun e w' => e = .returned (.agg (cells49 (warTo l 6))) ∧ Below w.heap.size w w' := by
  obtain ⟨ad, b, off, cap, rfl, ha, -, hbB, hops⟩ := hI
  have HO : Hid (∀ W, Below w.heap.size w W → ∀ k, k < l.length → ad = some ⟨b, off, none⟩ ∧ W.cell? ⟨b, off + k * 2, none⟩ = some (.int .i64 (l.getD k (0, 0)).1) ∧ W.cell? ⟨b, off + k * 2 + 1, none⟩ = some (.int .i64 (l.getD k (0, 0)).2)) := fun W hW k hk => ⟨ha (by omega), (hops.below hW hbB) k hk⟩
  have HBL : Hid (0 < l.length → b < w.heap.size) := fun hp => by
    rcases hbB with h | h
    · exact h
    · subst h; simp at hp
  have HD : Hid (∀ e ∈ l, (1 ≤ e.1 ∧ e.1 ≤ 6) ∧ (1 ≤ e.2 ∧ e.2 ≤ 6)) := hd
  clear ha hbB hops hd
  go_enter Tryd.func16, Tryd.ntmps16
  go_wp2_with fail
  go_loopw [4] (fun v4 wr => ∃ k : Nat, k ≤ l.length ∧ v4 = .int .i64 k ∧ Below w.heap.size w wr ∧ MatT 40 wr w.heap.size (fun _ _ => false) ∧ MatT 40 wr (w.heap.size + 1) (stepsS (l.take k))) (fun v4 _ => l.length - (intOf v4).toNat)
  case atStart => exact ⟨0, Nat.zero_le _, rfl, ((Below.refl _ w).alloc (Nat.le_refl _) _).alloc (by simp) _, (matT_fresh _ w _ rfl).alloc _, (matT_fresh2 _ w _ _ rfl).congr rfl⟩
  case round =>
    obtain ⟨k, hk, rfl, hbel, hz, hs⟩ := hrel
    have hB1 := hs.lt
    have HZ : Hid (MatT 40 wr w.heap.size (fun _ _ => false)) := hz
    have HS : Hid (MatT 40 wr (w.heap.size + 1) (stepsS (l.take k))) := hs
    clear hz hs
    by_cases hlt : k < l.length
    · obtain ⟨rfl, c0, c1⟩ := HO.out wr hbel k hlt
      obtain ⟨⟨t, a⟩, ho⟩ : ∃ o : Edge2, l.getD k (0, 0) = o := ⟨_, rfl⟩
      rw [ho] at c0 c1
      have hmem : (t, a) ∈ l := by rw [← ho]; simp [List.getD, List.getElem?_eq_getElem hlt]
      have hta := HD.out _ hmem
      simp only at hta c0 c1
      obtain ⟨t, rfl⟩ : ∃ n : Nat, t = n := ⟨t.toNat, by omega⟩
      obtain ⟨a, rfl⟩ : ∃ n : Nat, a = n := ⟨a.toNat, by omega⟩
      have HT : Hid (l.take (k + 1) = l.take k ++ [((t : Int), (a : Int))]) := by
        show l.take (k + 1) = l.take k ++ [((t : Int), (a : Int))]
        rw [List.take_succ_eq_append_getElem hlt, ← ho]; simp [List.getD, List.getElem?_eq_getElem hlt]
      have ht1 : 1 ≤ t := by omega
      have ht6 : t ≤ 6 := by omega
      have ha1 : 1 ≤ a := by omega
      have ha6 : a ≤ 6 := by omega
      have hbw := HBL.out (by omega)
      clear ho hmem hta
      have hsz := hbel.size
      have ht7 : (t : Int) < 7 := by omega
      have ha7 : (a : Int) < 7 := by omega
      have hB0 : w.heap.size < wr.heap.size := by omega
      have hbn : b ≠ w.heap.size + 1 := by omega
      have f0 := HS.out.cell (i := t) (k := a) (by omega) (by omega)
      have z0 := HS.out.thaw (t * 7 + a)
      go_wp2_with fail
      go_region
      all_goals
        go_wp2_with fail
        go_roundw
        case rel => exact ⟨k + 1, by omega, by go_num, (hbel.setCell (by simp) _).drew, (HZ.out.far _ (by simp)).drew, ((HS.out.set (by omega)).drew).congr (by rw [HT.out, set_steps])⟩
        case measure => simp [intOf]; omega
    · have HS' : Hid (MatT 40 wr (w.heap.size + 1) (warTo l 0)) := by
        have h1 := HS.out
        rw [List.take_of_length_le (by omega)] at h1
        exact h1
      have hlt' : ¬ (k : Int) < (l.length : Int) := by omega
      clear HS hk
      go_wp2_with fail
      go_loopw [5] (fun v5 wr => ∃ m : Nat, 1 ≤ m ∧ m ≤ 7 ∧ v5 = .int .i64 m ∧ Below w.heap.size w wr ∧ MatT 40 wr w.heap.size (fun _ _ => false) ∧ MatT 40 wr (w.heap.size + 1) (warTo l (m - 1))) (fun v5 _ => 7 - (intOf v5).toNat)
      case atStart => exact ⟨1, by omega, by omega, rfl, hbel, HZ.out, HS'.out⟩
      case round =>
        clear hbel HZ HS' hB1
        obtain ⟨m, hm1, hm7, rfl, hbel, hz, hs⟩ := hrel
        have HZ : Hid (MatT 40 wr w.heap.size (fun _ _ => false)) := hz
        have HS : Hid (MatT 40 wr (w.heap.size + 1) (warTo l (m - 1))) := hs
        clear hz hs
        by_cases hm : m < 7
        · have hm6 : (m : Int) ≤ 6 := by omega
          obtain ⟨W, hW⟩ : ∃ W, warTo l (m - 1) = W := ⟨_, rfl⟩
          have HW : Hid (partW W m 7 1 = warTo l m) := by
            show partW W m 7 1 = warTo l m
            rw [← hW]
            obtain ⟨n, rfl⟩ : ∃ n, m = n + 1 := ⟨m - 1, by omega⟩
            rfl
          have HSW : Hid (MatT 40 wr (w.heap.size + 1) W) := by have h1 := HS.out; rw [hW] at h1; exact h1
          clear hW HS
          go_wp2_with fail
          go_loopw [6] (fun v6 wr => ∃ i : Nat, 1 ≤ i ∧ i ≤ 7 ∧ v6 = .int .i64 i ∧ Below w.heap.size w wr ∧ MatT 40 wr w.heap.size (fun _ _ => false) ∧ MatT 40 wr (w.heap.size + 1) (partW W m i 1)) (fun v6 _ => 7 - (intOf v6).toNat)
          case atStart => exact ⟨1, by omega, by omega, rfl, hbel, HZ.out, HSW.out.congr (part_start W m).symm⟩
          case round =>
            clear hbel HZ HSW
            obtain ⟨i, hi1, hi7, rfl, hbel, hz, hs⟩ := hrel
            have HZ : Hid (MatT 40 wr w.heap.size (fun _ _ => false)) := hz
            have HS : Hid (MatT 40 wr (w.heap.size + 1) (partW W m i 1)) := hs
            clear hz hs
            by_cases hi : i < 7
            · have hi6 : (i : Int) ≤ 6 := by omega
              go_wp2_with fail
              go_loopw [7] (fun v7 wr => ∃ c : Nat, 1 ≤ c ∧ c ≤ 7 ∧ v7 = .int .i64 c ∧ Below w.heap.size w wr ∧ MatT 40 wr w.heap.size (fun _ _ => false) ∧ MatT 40 wr (w.heap.size + 1) (partW W m i c)) (fun v7 _ => 7 - (intOf v7).toNat)
              case atStart => exact ⟨1, by omega, by omega, rfl, hbel, HZ.out, HS.out⟩
              case round =>
                clear hbel HZ HS
                obtain ⟨c, hc1, hc7, rfl, hbel, hz, hs⟩ := hrel
                have HZ : Hid (MatT 40 wr w.heap.size (fun _ _ => false)) := hz
                have HS : Hid (MatT 40 wr (w.heap.size + 1) (partW W m i c)) := hs
                clear hz hs
                by_cases hc : c < 7
                · have hc6 : (c : Int) ≤ 6 := by omega
                  have i7 : (i : Int) < 7 := by omega
                  have m7 : (m : Int) < 7 := by omega
                  have c7 : (c : Int) < 7 := by omega
                  have f1 := HS.out.cell (i := i) (k := m) (by omega) (by omega)
                  have f2 := HS.out.cell (i := m) (k := c) (by omega) (by omega)
                  rw [part_col] at f1
                  rw [part_row] at f2
                  cases h1 : W i m with
                  | false =>
                    rw [h1] at f1
                    have HQ : Hid (partW W m i c = partW W m i (c + 1)) := part_skip W m i c (by rw [h1]; rfl)
                    go_wp2_with fail
                    go_roundw
                    case rel => exact ⟨c + 1, by omega, by omega, by go_num, hbel, HZ.out, HS.out.congr HQ.out⟩
                    case measure => simp [intOf]; omega
                  | true =>
                    rw [h1] at f1
                    cases h2 : W m c with
                    | false =>
                      rw [h2] at f2
                      have HQ : Hid (partW W m i c = partW W m i (c + 1)) := part_skip W m i c (by rw [h1, h2]; rfl)
                      go_wp2_with fail
                      go_roundw
                      case rel => exact ⟨c + 1, by omega, by omega, by go_num, hbel, HZ.out, HS.out.congr HQ.out⟩
                      case measure => simp [intOf]; omega
                    | true =>
                      rw [h2] at f2
                      have HQ : Hid (setM (partW W m i c) i c = partW W m i (c + 1)) := part_set W m i c ⟨hi1, by omega⟩ ⟨hc1, by omega⟩ (by rw [h1, h2]; rfl)
                      have f3 := HS.out.cell (i := i) (k := c) (by omega) (by omega)
                      have z3 := HS.out.thaw (i * 7 + c)
                      go_wp2_with fail
                      go_roundw
                      case rel => exact ⟨c + 1, by omega, by omega, by go_num, hbel.setCell (by simp) _, HZ.out.far _ (by simp), (HS.out.set (by omega)).congr HQ.out⟩
                      case measure => simp [intOf]; omega
                · have hc6 : ¬ (c : Int) ≤ 6 := by omega
                  have HQ : Hid (partW W m i c = partW W m (i + 1) 1) := by
                    show partW W m i c = partW W m (i + 1) 1
                    rw [show c = 7 by omega]; exact part_line W m i
                  go_wp2_with fail
                  go_roundw
                  case rel => exact ⟨i + 1, by omega, by omega, by go_num, hbel, HZ.out, HS.out.congr HQ.out⟩
                  case measure => simp [intOf]; omega
            · have hi6 : ¬ (i : Int) ≤ 6 := by omega
              have HQ : Hid (partW W m i 1 = warTo l (m + 1 - 1)) := by
                show partW W m i 1 = warTo l (m + 1 - 1)
                rw [show i = 7 by omega, Nat.add_sub_cancel]; exact HW.out
              go_wp2_with fail
              go_roundw
              case rel => exact ⟨m + 1, by omega, by omega, by go_num, hbel, HZ.out, HS.out.congr HQ.out⟩
              case measure => simp [intOf]; omega
        · have hm6 : ¬ (m : Int) ≤ 6 := by omega
          have HS6 : Hid (MatT 40 wr (w.heap.size + 1) (warTo l 6)) := by have h1 := HS.out; rw [show m - 1 = 6 by omega] at h1; exact h1
          clear HS
          go_wp2_with (first | refine wpList_load_row rfl 40 (.tmp 3) rfl (w.heap.size + 1) rfl 40 (cells49 (warTo l 6)) (0, 0) _ HS6.out Tryd.underlying40 rfl (mat40_info _) ?_ | refine wpList_store_row rfl 40 (.tmp 2) (.tmp 54) rfl w.heap.size (cells49 (warTo l 6)) rfl rfl 40 (cells49 fun _ _ => false) HZ.out (mat40_info _) (by rw [cells49_size, cells49_size]) (cells49_one _) ?_)
          exact bodyPost_ret (v := .agg (cells49 (warTo l 6))) (results_cell_row Tryd.results16 _ _ w.heap.size 40 (cells49 (warTo l 6)) (0, 0) _ rfl (setRow_heap _ _ _ _ _ _ HZ.out) Tryd.underlying40 rfl (mat40_info _)) rfl ⟨rfl, below_setRow hbel (Nat.le_refl _) _⟩
end Go.Proofs.YtjaeaanpbdmfgabDoor
