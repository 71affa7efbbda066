/-
  PROVED HERE: graph.stepsOf tells of right edges from which deal one leads to which. Old memory stays as it was.
  Conditions: none.
-/
import Derived.Test.YtmjjiehnjghndaaGraphMat
namespace Go.Proofs.Ytmjjiehnjghndaa
open Go.RowKit

theorem set_steps (l : List Edge2) (t a : Nat) : setM (stepsS l) t a = stepsS (l ++ [((t : Int), (a : Int))]) := by
  funext i k
  rw [stepsS_snoc, cast_beq, cast_beq]
  unfold setM
  by_cases h : i = t ∧ k = a
  · rw [if_pos h, h.1, h.2]; simp
  · rw [if_neg h]
    by_cases h1 : i = t
    · by_cases h2 : k = a
      · exact absurd ⟨h1, h2⟩ h
      · simp [h2]
    · simp [h1]

set_option maxHeartbeats 4000000 in
theorem stepsOf_any (l : List Edge2) (v : Value) (w : World) (hI : IsEdges w v l) (hd : ∀ e ∈ l, (1 ≤ e.1 ∧ e.1 ≤ 6) ∧ (1 ≤ e.2 ∧ e.2 ≤ 6)) (hl : l.length ≤ 60) :
    Calls Try.prog 34 #[v] w fun e w' => e = .returned (.agg (cells49 (stepsS l))) ∧ Below w.heap.size w w' := by
  obtain ⟨ad, b, off, cap, rfl, ha, -, hbB, hops⟩ := hI
  have HO : Hid (∀ W, Below w.heap.size w W → ∀ k, k < l.length → ad = some ⟨b, off, none⟩ ∧ W.cell? ⟨b, off + k * 2, none⟩ = some (.int .i64 (l.getD k (0, 0)).1) ∧ W.cell? ⟨b, off + k * 2 + 1, none⟩ = some (.int .i64 (l.getD k (0, 0)).2)) := fun W hW k hk => ⟨ha (by omega), (hops.below hW hbB) k hk⟩
  have HD : Hid (∀ e ∈ l, (1 ≤ e.1 ∧ e.1 ≤ 6) ∧ (1 ≤ e.2 ∧ e.2 ≤ 6)) := hd
  clear ha hbB hops hd
  go_enter Try.func34, Try.ntmps34
  go_wp2
  go_loopw [8] (fun v8 wr => ∃ k : Nat, k ≤ l.length ∧ v8 = .int .i64 k ∧ Below w.heap.size w wr ∧ MatAt wr w.heap.size (fun _ _ => false) ∧ MatAt wr (w.heap.size + 1) (stepsS (l.take k))) (fun v8 _ => l.length - (intOf v8).toNat)
  case atStart =>
    refine ⟨0, Nat.zero_le _, rfl, ((Below.refl _ w).alloc (Nat.le_refl _) _).alloc (by simp) _, (mat_fresh w _ rfl).alloc _, (mat_fresh2 w _ _ rfl).congr rfl⟩
  case round =>
    obtain ⟨k, hk, rfl, hbel, hz, hs⟩ := hrel
    have hB1 := hs.lt
    have HZ : Hid (MatAt wr w.heap.size (fun _ _ => false)) := hz
    have HS : Hid (MatAt wr (w.heap.size + 1) (stepsS (l.take k))) := hs
    clear hz hs
    by_cases hlt : k < l.length
    · obtain ⟨rfl, c0, c1⟩ := HO.out wr hbel k hlt
      obtain ⟨⟨t, a⟩, ho⟩ : ∃ o : Edge2, l.getD k (0, 0) = o := ⟨_, rfl⟩
      rw [ho] at c0 c1
      have hmem : (t, a) ∈ l := by rw [← ho]; simp [List.getD, List.getElem?_eq_getElem hlt]
      have hta := HD.out _ hmem
      simp only at hta c0 c1
      obtain ⟨t, rfl⟩ : ∃ n : Nat, t = n := ⟨t.toNat, by omega⟩
      obtain ⟨a, rfl⟩ : ∃ n : Nat, a = n := ⟨a.toNat, by omega⟩
      have HT : Hid (l.take (k + 1) = l.take k ++ [((t : Int), (a : Int))]) := by
        show l.take (k + 1) = l.take k ++ [((t : Int), (a : Int))]
        rw [List.take_succ_eq_append_getElem hlt, ← ho]; simp [List.getD, List.getElem?_eq_getElem hlt]
      have ht1 : 1 ≤ t := by omega
      have ht6 : t ≤ 6 := by omega
      have ha1 : 1 ≤ a := by omega
      have ha6 : a ≤ 6 := by omega
      clear ho hmem hta
      have hsz := hbel.size
      have ht7 : (t : Int) < 7 := by omega
      have ha7 : (a : Int) < 7 := by omega
      have hB0 : w.heap.size < wr.heap.size := by omega
      have f0 := HS.out.cell (i := t) (k := a) (by omega) (by omega)
      have z0 := HS.out.thaw (t * 7 + a)
      go_wp2
      go_region
      all_goals
        go_wp2
        go_roundw
        case rel => exact ⟨k + 1, by omega, by go_num, ((hbel.setCell (by simp) _).alloc (by simpa using hsz) _).drew, ((HZ.out.far _ (by simp)).alloc _).drew, (((HS.out.set (by omega)).alloc _).drew).congr (by rw [HT.out, set_steps])⟩
        case measure => simp [intOf]; omega
    · have HS' : Hid (MatAt wr (w.heap.size + 1) (stepsS l)) := by
        have h1 := HS.out
        rw [List.take_of_length_le (by omega)] at h1
        exact h1
      clear HS
      go_wp2_with (first | refine wpList_load_row rfl 66 (.tmp 3) rfl (w.heap.size + 1) rfl 66 (cells49 (stepsS l)) (0, 0) _ HS'.out Try.underlying66 rfl (mat_info' _) ?_ | refine wpList_store_row rfl 66 (.tmp 2) (.tmp 19) rfl w.heap.size (cells49 (stepsS l)) rfl rfl 66 (cells49 fun _ _ => false) HZ.out (mat_info' _) (by rw [cells49_size, cells49_size]) (cells49_one _) ?_)
      exact bodyPost_ret (v := .agg (cells49 (stepsS l))) (results_cell_row Try.results34 _ _ w.heap.size 66 (cells49 (stepsS l)) (0, 0) _ rfl (setRow_heap _ _ _ _ _ _ HZ.out) Try.underlying66 rfl (mat_info' _)) rfl ⟨rfl, below_setRow hbel (Nat.le_refl _) _⟩
end Go.Proofs.Ytmjjiehnjghndaa
