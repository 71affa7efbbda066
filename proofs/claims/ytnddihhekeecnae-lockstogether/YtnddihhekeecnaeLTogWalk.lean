/-
  PROVED HERE: lanelaw4.LocksTogether answers true, over whatever keeps LocksQ.
  Conditions: LocksQ.
-/
import Derived.Test.YtnddihhekeecnaeLocksAsk
namespace Go.Proofs.Ytnddihhekeecnae
open Go.RowKit

/-- The first k deals hold an item, shared. -/
def shL (i : Int) (k : Nat) : List Op3 := (List.range k).map fun (j : Nat) => ((j : Int) + 1, i, 1)
theorem shL_len (i : Int) (k : Nat) : (shL i k).length = k := by simp [shL]
theorem tog_ask {i : Int} (h1 : 1 ≤ i) (h6 : i ≤ 6) {k : Nat} (hk : k < 4) : askT (shL i k, []) ((k : Int) + 1, i, 1) = ((true, 0), (shL i (k + 1), [])) := by
  rcases (show i = 1 ∨ i = 2 ∨ i = 3 ∨ i = 4 ∨ i = 5 ∨ i = 6 by omega) with rfl | rfl | rfl | rfl | rfl | rfl <;>
  rcases (show k = 0 ∨ k = 1 ∨ k = 2 ∨ k = 3 by omega) with rfl | rfl | rfl | rfl <;> decide
theorem tog_rest {i : Int} (h1 : 1 ≤ i) (h6 : i ≤ 6) {k : Nat} (hk1 : 1 ≤ k) (hk : k ≤ 4) : askT (shL i k, []) (5, i, 2) = ((false, 0), (shL i k, [(5, i, 2)])) ∧ askT (shL i k, [(5, i, 2)]) (6, i, 1) = ((false, 0), (shL i k, [(5, i, 2), (6, i, 1)])) ∧ forU (shL i k, [(5, i, 2), (6, i, 1)]) (5, i, 2) = ((List.range k).map fun (j : Nat) => (j : Int) + 1, 0) ∧ forU (shL i k, [(5, i, 2), (6, i, 1)]) (6, i, 1) = ([5], 0) := by
  rcases (show i = 1 ∨ i = 2 ∨ i = 3 ∨ i = 4 ∨ i = 5 ∨ i = 6 by omega) with rfl | rfl | rfl | rfl | rfl | rfl <;>
  rcases (show k = 1 ∨ k = 2 ∨ k = 3 ∨ k = 4 by omega) with rfl | rfl | rfl | rfl <;> decide
set_option maxHeartbeats 4000000 in
theorem ltog_out (n i : Int) (w : World) (h : n < 1 ∨ 4 < n ∨ i < 1 ∨ 6 < i) :
    Calls Try.prog 3 #[.int .i64 n, .int .i64 i] w fun e w' => e = .returned (.bool true) ∧ Below w.heap.size w w' := by
  by_cases h1 : n < 1
  · go_enter Try.func3, Try.ntmps3
    go_wp2_with fail
    go_ret
    exact ⟨rfl, Below.refl _ _⟩
  · by_cases h2 : 4 < n
    · go_enter Try.func3, Try.ntmps3
      go_wp2_with fail
      go_ret
      exact ⟨rfl, Below.refl _ _⟩
    · by_cases h3 : i < 1
      · go_enter Try.func3, Try.ntmps3
        go_wp2_with fail
        go_ret
        exact ⟨rfl, Below.refl _ _⟩
      · have h4 : 6 < i := by omega
        go_enter Try.func3, Try.ntmps3
        go_wp2_with fail
        go_ret
        exact ⟨rfl, Below.refl _ _⟩
set_option maxHeartbeats 16000000 in
set_option maxRecDepth 100000 in
theorem ltog_in {PT : World → Nat → (Nat → Prop) → Tab2 → Prop} (hC : LocksQ PT) (n i : Int) (w : World) (h1 : 1 ≤ n ∧ n ≤ 4) (h2 : 1 ≤ i ∧ i ≤ 6) :
    Calls Try.prog 3 #[.int .i64 n, .int .i64 i] w fun e w' => e = .returned (.bool true) ∧ Below w.heap.size w w' := by
  obtain ⟨m, rfl⟩ : ∃ m : Nat, n = m := ⟨n.toNat, by omega⟩
  obtain ⟨n1, n4⟩ := h1
  obtain ⟨i1, i6⟩ := h2
  have HC : Hid (LocksQ PT) := hC
  clear hC
  obtain ⟨t1, t2, t3, t4⟩ := tog_rest i1 i6 (k := m) (by omega) (by omega)
  have HT : Hid (askT (shL i m, []) (5, i, 2) = ((false, 0), (shL i m, [(5, i, 2)])) ∧ askT (shL i m, [(5, i, 2)]) (6, i, 1) = ((false, 0), (shL i m, [(5, i, 2), (6, i, 1)])) ∧ forU (shL i m, [(5, i, 2), (6, i, 1)]) (5, i, 2) = ((List.range m).map fun (j : Nat) => (j : Int) + 1, 0) ∧ forU (shL i m, [(5, i, 2), (6, i, 1)]) (6, i, 1) = ([5], 0)) := ⟨t1, t2, t3, t4⟩
  clear t1 t2 t3 t4
  go_enter Try.func3, Try.ntmps3
  go_wp2_with fail
  refine (HC.out.new w).mono ?_
  rintro e w1 ⟨T, F, rfl, hpt, hb1, hF⟩
  have HP : Hid (PT w1 T F ([], []) ∧ Below w.heap.size w w1 ∧ ∀ k, F k → w.heap.size ≤ k) := ⟨hpt, hb1, hF⟩
  clear hpt hb1 hF
  go_wp2_with fail
  go_loopw [6] (fun v6 wr => ∃ (k : Nat) (F : Nat → Prop), k ≤ m ∧ v6 = .int .i64 ((k : Int) + 1) ∧ PT wr T F (shL i k, []) ∧ Below w.heap.size w wr ∧ ∀ k, F k → w.heap.size ≤ k) (fun v6 _ => (m : Int).toNat + 1 - (intOf v6).toNat)
  case atStart => exact ⟨0, F, Nat.zero_le _, by go_num, HP.out⟩
  case round =>
    obtain ⟨k, F2, hk, rfl, hpt, hbel, hF2⟩ := hrel
    have HK : Hid (PT wr T F2 (shL i k, []) ∧ Below w.heap.size w wr ∧ ∀ k, F2 k → w.heap.size ≤ k) := ⟨hpt, hbel, hF2⟩
    clear hpt hbel hF2
    by_cases hlt : k < m
    · have hlt' : (k : Int) + 1 ≤ (m : Int) := by omega
      have HA : Hid (askT (shL i k, []) ((k : Int) + 1, i, 1) = ((true, 0), (shL i (k + 1), []))) := tog_ask i1 i6 (by omega)
      go_wp2_with fail
      refine (HC.out.ask wr T F2 (shL i k, []) ((k : Int) + 1, i, 1) HK.out.1 (by rw [shL_len]; omega) (by simp)).mono ?_
      rintro e w2 ⟨rfl, F3, hpt3, htu3, hf3⟩
      rw [HA.out] at hpt3 ⊢
      rw [errV_zero]
      go_wp2_with fail
      go_roundw
      case rel => exact ⟨k + 1, F3, by omega, by go_num, hpt3, HK.out.2.1.trans (htu3.below HK.out.2.1.size fun j hj hf => by have := HK.out.2.2 j hf; omega), fun j hj => by
        rcases hf3 j hj with h | h
        · exact HK.out.2.2 j h
        · have := HK.out.2.1.size; omega⟩
      case measure => simp [intOf]; omega
    · have hlt' : ¬ (k : Int) + 1 ≤ (m : Int) := by omega
      obtain rfl : m = k := by omega
      go_wp2_with fail
      refine (HC.out.ask wr T F2 (shL i m, []) (5, i, 2) HK.out.1 (by rw [shL_len]; omega) (by simp)).mono ?_
      rintro e w2 ⟨rfl, F3, hpt3, htu3, hf3⟩
      rw [HT.out.1] at hpt3 ⊢
      have HK3 : Hid (PT w2 T F3 (shL i m, [(5, i, 2)]) ∧ Below w.heap.size w w2 ∧ ∀ k, F3 k → w.heap.size ≤ k) := ⟨hpt3, HK.out.2.1.trans (htu3.below HK.out.2.1.size fun j hj hf => by have := HK.out.2.2 j hf; omega), fun j hj => by
        rcases hf3 j hj with h | h
        · exact HK.out.2.2 j h
        · have := HK.out.2.1.size; omega⟩
      clear hpt3 htu3 hf3
      rw [errV_zero]
      go_wp2_with fail
      refine (HC.out.ask w2 T F3 (shL i m, [(5, i, 2)]) (6, i, 1) HK3.out.1 (by rw [shL_len]; omega) (by simp)).mono ?_
      rintro e w3 ⟨rfl, F4, hpt4, htu4, hf4⟩
      rw [HT.out.2.1] at hpt4 ⊢
      have HK4 : Hid (PT w3 T F4 (shL i m, [(5, i, 2), (6, i, 1)]) ∧ Below w.heap.size w w3) := ⟨hpt4, HK3.out.2.1.trans (htu4.below HK3.out.2.1.size fun j hj hf => by have := HK3.out.2.2 j hf; omega)⟩
      clear hpt4 htu4 hf4
      rw [errV_zero]
      go_wp2_with fail
      refine (HC.out.whom w3 T F4 (shL i m, [(5, i, 2), (6, i, 1)]) (5, i, 2) HK4.out.1 (by rw [shL_len]; omega) (by simp)).mono ?_
      rintro e w4 ⟨v4, rfl, hi4, hb4⟩
      rw [HT.out.2.2.1] at hi4 ⊢
      obtain ⟨ad4, b4, off4, cap4, hv4, -, -, -, -⟩ := hi4
      simp only [List.length_map, List.length_range] at hv4
      subst hv4
      have HK5 : Hid (PT w4 T F4 (shL i m, [(5, i, 2), (6, i, 1)]) ∧ Below w.heap.size w w4) := ⟨HC.out.below HK4.out.1 hb4, HK4.out.2.trans (hb4.mono HK4.out.2.size)⟩
      clear hb4
      rw [errV_zero]
      go_wp2_with fail
      refine (HC.out.whom w4 T F4 (shL i m, [(5, i, 2), (6, i, 1)]) (6, i, 1) HK5.out.1 (by rw [shL_len]; omega) (by simp)).mono ?_
      rintro e w5 ⟨v5, rfl, hi5, hb5⟩
      rw [HT.out.2.2.2] at hi5 ⊢
      obtain ⟨ad5, b5, off5, cap5, hv5, ha5, -, -, hc5⟩ := hi5
      obtain rfl := ha5 (by decide)
      have c5 : w5.cell? ⟨b5, off5, none⟩ = some (.int .i64 5) := by have := hc5 0 (by decide); simpa using this
      simp only [List.length_cons, List.length_nil] at hv5
      subst hv5
      have HK6 : Hid (Below w.heap.size w w5) := HK5.out.2.trans (hb5.mono HK5.out.2.size)
      clear hb5 hc5 ha5
      rw [errV_zero]
      go_wp2_with fail
      go_ret
      exact ⟨rfl, HK6.out⟩
end Go.Proofs.Ytnddihhekeecnae
