/-
  PROVED HERE: lanelaw4.PlayOne returns true, whatever the three numbers; old memory stays as it was.
  Conditions: package play's contracts (ValuesOk, SeenOk), which the text that speaks of that package proves.
-/
import Derived.Test.YtgnbejemhdcemadPlayAsk2
import Derived.Test.YtgnbejemhdcemadPlayOnePlain
import Derived.Test.YtgnbejemhdcemadKeep
namespace Go.Proofs.Ytgnbejemhdcemad
open Go.RowKit

theorem two_op_at (w : World) (t a x t2 a2 x2 : Int) : ∀ j u, (flat [(t, a, x), (t2, a2, x2)])[j]? = some u → (w.alloc (.cells #[.int .i64 t, .int .i64 a, .int .i64 x, .int .i64 t2, .int .i64 a2, .int .i64 x2] 24)).cell? ((⟨w.heap.size, 0, none⟩ : Addr).add j) = some u := by
  intro j u hj
  match j, hj with
  | 0, hj => simp [flat] at hj; subst hj; simp [Addr.add]
  | 1, hj => simp [flat] at hj; subst hj; simp [Addr.add]
  | 2, hj => simp [flat] at hj; subst hj; simp [Addr.add]
  | 3, hj => simp [flat] at hj; subst hj; simp [Addr.add]
  | 4, hj => simp [flat] at hj; subst hj; simp [Addr.add]
  | 5, hj => simp [flat] at hj; subst hj; simp [Addr.add]
  | k + 6, hj => simp [flat] at hj
set_option maxHeartbeats 4000000 in
theorem pone_out (t k x : Int) (w : World) (h : t < 1 ∨ 6 < t ∨ k < 1 ∨ 30 < k ∨ x < 1 ∨ 6 < x) :
    Calls Try.prog 5 #[.int .i64 t, .int .i64 k, .int .i64 x] w fun e w' => e = .returned (.bool true) ∧ Below w.heap.size w w' := by
  by_cases h1 : t < 1
  · go_enter Try.func5, Try.ntmps5
    go_wp2_with fail
    go_ret
    exact ⟨rfl, Below.refl _ _⟩
  by_cases h2 : 6 < t
  · clear h
    go_enter Try.func5, Try.ntmps5
    go_wp2_with fail
    go_ret
    exact ⟨rfl, Below.refl _ _⟩
  by_cases h3 : k < 1
  · clear h
    go_enter Try.func5, Try.ntmps5
    go_wp2_with fail
    go_ret
    exact ⟨rfl, Below.refl _ _⟩
  by_cases h4 : 30 < k
  · clear h
    go_enter Try.func5, Try.ntmps5
    go_wp2_with fail
    go_ret
    exact ⟨rfl, Below.refl _ _⟩
  by_cases h5 : x < 1
  · clear h
    go_enter Try.func5, Try.ntmps5
    go_wp2_with fail
    go_ret
    exact ⟨rfl, Below.refl _ _⟩
  · have h6 : 6 < x := by omega
    clear h
    go_enter Try.func5, Try.ntmps5
    go_wp2_with fail
    go_ret
    exact ⟨rfl, Below.refl _ _⟩
set_option maxHeartbeats 8000000 in
set_option maxRecDepth 100000 in
theorem pone_in (hVO : ValuesOk) (hSO : SeenOk) (t k x : Int) (w : World) (ht : 1 ≤ t ∧ t ≤ 6) (hk : 1 ≤ k ∧ k ≤ 30) (hx : 1 ≤ x ∧ x ≤ 6) :
    Calls Try.prog 5 #[.int .i64 t, .int .i64 k, .int .i64 x] w fun e w' => e = .returned (.bool true) ∧ Below w.heap.size w w' := by
  obtain ⟨n, hn⟩ : ∃ n : Nat, k = (n : Int) + 1 := ⟨(k - 1).toNat, by omega⟩
  have hn29 : n ≤ 29 := by omega
  have HVA : Hid (∀ v W, IsOps W v (oneL t x n) → Calls Try.prog 12 #[v] W fun e w' => ∃ v', e = .returned (.tuple #[v', .nilIface]) ∧ IsInts w' v' (valsL (oneL t x n)) ∧ Below W.heap.size W w') := fun v W h => by
    have h1 := hVO (oneL t x n) v W h (oneL_right ht hx hn29)
    rw [oneL_done ht] at h1
    exact h1
  have HSE : Hid (∀ v W, IsOps W v (oneL t x n) → Calls Try.prog 16 #[v] W fun e w' => ∃ v', e = .returned (.tuple #[v', .nilIface]) ∧ IsInts w' v' (seenTo (oneL t x n) (oneL t x n).length) ∧ Below W.heap.size W w') := fun v W h => by
    have h1 := hSO (oneL t x n) v W h (oneL_right ht hx hn29)
    rw [oneL_done ht] at h1
    exact h1
  have HVX : Hid ((valsL (oneL t x n)).getD (x - 1).toNat 0 = 7 * t + k) := by
    show (valsL (oneL t x n)).getD (x - 1).toNat 0 = 7 * t + k
    rw [valsL_at _ (by omega), show (((x - 1).toNat : Nat) : Int) + 1 = x by omega, oneL_val ht hn29]
    omega
  obtain ⟨i0, hi, hz0, hs0, hy0⟩ := info_parts infoOp
  have HI : Hid (Try.prog.info? 24 = some i0 ∧ i0.zero = some (.agg #[.int .i64 0, .int .i64 0, .int .i64 0]) ∧ i0.size = 3 ∧ i0.bytes = 24) := ⟨hi, hz0, hs0, hy0⟩
  have HN : Hid (k = (n : Int) + 1) := hn
  have ht1 : ¬ t < 1 := by omega
  have ht6 : ¬ 6 < t := by omega
  have hk1 : ¬ k < 1 := by omega
  have hk30 : ¬ 30 < k := by omega
  have hx1 : ¬ x < 1 := by omega
  have hx6 : ¬ 6 < x := by omega
  clear hVO hSO hi hz0 hs0 hy0 hn ht hx
  go_enter Try.func5, Try.ntmps5
  go_wp2_with fail
  go_loopw [7, 8] (fun v7 v8 wr => ∃ (i : Int) (j : Nat), v8 = .int .i64 i ∧ i = (j : Int) + 1 ∧ i ≤ k ∧ wr.ownsRow w.heap.size 24 3 v7 j (flat (List.replicate j (t, 1, x))) ∧ Below w.heap.size w wr) (fun _ v8 _ => (k - intOf v8).toNat)
  case atStart => exact ⟨1, 0, rfl, rfl, by omega, World.ownsRow_nil _ _ _ _, Below.refl _ _⟩
  case round =>
    obtain ⟨i, j, rfl, hij, hik, hown, hbel⟩ := hrel
    have hsz := hbel.size
    have HIJ : Hid (i = (j : Int) + 1) := hij
    have hj : j ≤ 29 := by omega
    have hi1 : 1 ≤ i := by omega
    have hk29 : k ≤ 30 := by omega
    have HOWN : Hid (wr.ownsRow w.heap.size 24 3 u7 j (flat (List.replicate j (t, 1, x)))) := hown
    have HB : Hid (Below w.heap.size w wr) := hbel
    clear hij hown hbel
    by_cases hlt : i < k
    · go_wp2_with (at_builtin; refine wpList_append_own _ rfl (.tmp 40) (.tmp 44) 22 rfl w.heap.size 24 i0 (.agg #[.int .i64 0, .int .i64 0, .int .i64 0]) 3 24 Try.underlying22 HI.out.1 HI.out.2.1 HI.out.2.2.1 HI.out.2.2.2 rfl (by decide) u7 j (flat (List.replicate j (t, 1, x))) rfl (HOWN.out.alloc _) ⟨wr.heap.size, 0, none⟩ 1 1 (flat [(t, 1, x)]) rfl rfl (one_at wr t 1 x) (flat_one _) (by unfold maxLen; omega) (by omega) (by simp; omega) ?_; intro v4 w4 hown4 hgr4 hnil4)
      have HB4 : Hid (Below w.heap.size w w4) := (HB.out.alloc HB.out.size _).grown hgr4 (by simp; omega) (fun q hq => (HOWN.out.lt q hq).1)
      have HO4 : Hid (w4.ownsRow w.heap.size 24 3 v4 (j + 1) (flat (List.replicate j (t, 1, x)) ++ flat [(t, 1, x)])) := hown4
      clear hown4 hgr4 hnil4
      go_wp2_with fail
      go_roundw
      case rel => exact ⟨i + 1, j + 1, by go_num, by have := HIJ.out; omega, by omega, by rw [List.replicate_succ', flat_append]; exact HO4.out, HB4.out⟩
      case measure => simp [intOf]; omega
    · have hjn : j = n := by have := HIJ.out; have := HN.out; omega
      subst hjn
      go_wp2_with (first | (at_builtin; refine wpList_append_own _ rfl (.tmp 46) (.tmp 52) 22 rfl w.heap.size 24 i0 (.agg #[.int .i64 0, .int .i64 0, .int .i64 0]) 3 24 Try.underlying22 HI.out.1 HI.out.2.1 HI.out.2.2.1 HI.out.2.2.2 rfl (by decide) u7 j (flat (List.replicate j (t, 1, x))) rfl (HOWN.out.alloc _) ⟨wr.heap.size, 0, none⟩ 2 2 (flat [(t, 2, x), (t, 3, 0)]) rfl rfl (two_op_at wr t 2 x t 3 0) (flat_one _) (by unfold maxLen; omega) (by omega) (by simp; omega) ?_; intro v4 w4 hown4 hgr4 hnil4))
      have HB4 : Hid (Below w.heap.size w w4) := (HB.out.alloc HB.out.size _).grown hgr4 (by simp; omega) (fun q hq => (HOWN.out.lt q hq).1)
      have HO4 : Hid (IsOps w4 v4 (oneL t x j)) := by
        rw [← flat_append] at hown4
        exact isOps_own hown4 (by rw [oneL_len])
      clear hown4 hgr4 hnil4
      refine (HVA.out v4 w4 HO4.out).mono ?_
      rintro e w5 ⟨v5, rfl, hv5, hb5⟩
      have HO5 : Hid (IsOps w5 v4 (oneL t x j)) := HO4.out.below hb5 (Nat.le_refl _)
      have HB5 : Hid (Below w.heap.size w w5) := HB4.out.trans (hb5.mono HB4.out.size)
      have HV5 : Hid (IsInts w5 v5 (valsL (oneL t x j))) := hv5
      clear hv5 hb5
      go_wp2_with fail
      refine (HSE.out v4 w5 HO5.out).mono ?_
      rintro e w6 ⟨v6, rfl, hv6, hb6⟩
      have HB6 : Hid (Below w.heap.size w w6) := HB5.out.trans (hb6.mono HB5.out.size)
      have hv5 := HV5.out.below hb6 (Nat.le_refl _)
      obtain ⟨ad, b, off, cap, rfl, hadr, -, -, hcel⟩ := hv5
      obtain ⟨ad6, _, _, cap6, rfl, -⟩ := hv6
      rw [oneL_seen]
      obtain ⟨m, hm⟩ : ∃ m : Nat, x - 1 = (m : Int) := ⟨(x - 1).toNat, by omega⟩
      have c0 := hcel m (by rw [valsL_len]; omega)
      have hvx := HVX.out
      rw [hm, Int.toNat_natCast] at hvx
      rw [hvx] at c0
      have hm6 : (m : Int) < 6 := by omega
      have hwm : IntKind.i64.wrap (m : Int) = (m : Int) := by simp only [IntKind.wrap, IntKind.bits, IntKind.signed]; simp; omega
      have hkj : k - 1 = (j : Int) := by have := HN.out; omega
      have hwj : IntKind.i64.wrap (j : Int) = (j : Int) := by simp only [IntKind.wrap, IntKind.bits, IntKind.signed]; simp; omega
      have hadr' := hadr (by rw [valsL_len]; decide)
      subst hadr'
      rw [valsL_len]
      clear hb6 hcel hadr HV5 HO5 HO4 HVX hvx
      go_wp2_with fail
      go_ret
      exact ⟨rfl, HB6.out⟩
end Go.Proofs.Ytgnbejemhdcemad
