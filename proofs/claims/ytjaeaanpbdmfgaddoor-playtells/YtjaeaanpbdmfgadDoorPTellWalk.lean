/-
  PROVED HERE: lanelaw1.PlayTells returns true, whatever the list of ops; old memory stays as it was.
  Conditions: package play's contracts (ValuesOk, SeenOk, ValuesBad, SeenBad), which the text that speaks of that package proves; errors.errorType holds the handle of the type error (the row lists it).
-/
import Derived.Test.YtjaeaanpbdmfgadDoorPlayAsk2
import Derived.Test.YtjaeaanpbdmfgadDoorRefPlay
import Derived.Test.YtjaeaanpbdmfgadDoorRefHist
import Derived.Test.YtjaeaanpbdmfgadDoorSameInts
import Derived.Test.YtjaeaanpbdmfgadDoorTold
namespace Go.Proofs.YtjaeaanpbdmfgadDoor
open Go.RowKit

set_option maxHeartbeats 4000000 in
theorem ptell_bad (hVB : ValuesBad) (hSB : SeenBad) (l : List Op3) (v : Value) (w : World) (h : IsOps w v l) (hc : (chk l).2 ≠ 0) (hg : EtAt w) :
    Calls Tryd.prog 3 #[v] w fun e w' => e = .returned (.bool true) ∧ Below w.heap.size w w' := by
  have HIE : Hid (∀ W, Below w.heap.size w W → IsOps W v l ∧ EtAt W) := fun W hW => ⟨h.below hW (Nat.le_refl _), hg.below hW hg.lt⟩
  obtain ⟨n, hn⟩ : ∃ n, (chk l).2 = n := ⟨_, rfl⟩
  have hn' : (n == 0) = false := by rw [← hn]; simpa using hc
  have HRR : Hid (Calls Tryd.prog 4 #[v] w fun e w' => e = .returned (.int .i64 n) ∧ Below w.heap.size w w') := by
    have h1 := refRight_any l _ w h
    rw [hn] at h1
    exact h1
  have HVA : Hid (∀ W, Below w.heap.size w W → Calls Tryd.prog 6 #[v] W fun e w' => e = .returned (.tuple #[.slice none 0 0, .iface 45 (.int .i64 n)]) ∧ Below W.heap.size W w') := fun W hW => by
    have h1 := hVB l v W (HIE.out W hW).1 hc
    rw [hn] at h1
    exact h1
  have HSE : Hid (∀ W, Below w.heap.size w W → Calls Tryd.prog 9 #[v] W fun e w' => e = .returned (.tuple #[.slice none 0 0, .iface 45 (.int .i64 n)]) ∧ Below W.heap.size W w') := fun W hW => by
    have h1 := hSB l v W (HIE.out W hW).1 hc
    rw [hn] at h1
    exact h1
  have HER : Hid (∀ W, Below w.heap.size w W → Calls Tryd.prog 7 #[.iface 45 (.int .i64 n), .int .i64 n] W fun e w' => e = .returned (.bool true) ∧ Below W.heap.size W w') := fun W hW => (error_hit n n W (HIE.out W hW).2).mono fun _ _ ⟨he, hb⟩ => ⟨by rw [he]; simp, hb⟩
  have HST : Hid (∀ W W', Below w.heap.size w W → Below W.heap.size W W' → Below w.heap.size w W') := fun W W' h1 h2 => h1.trans (h2.mono h1.size)
  clear h hc hg hn hVB hSB
  go_enter Tryd.func3, Tryd.ntmps3
  go_wp2_with fail
  refine HRR.out.mono ?_
  rintro e w1 ⟨rfl, hb1⟩
  go_wp2_with fail
  refine (HVA.out _ hb1).mono ?_
  rintro e w2 ⟨rfl, hq2⟩
  have hb2 := HST.out _ _ hb1 hq2
  clear hb1 hq2
  go_wp2_with fail
  refine (HER.out _ hb2).mono ?_
  rintro e w3 ⟨rfl, hq3⟩
  have hb3 := HST.out _ _ hb2 hq3
  clear hb2 hq3
  go_wp2_with fail
  refine (same_ints [] _ _ _ (isInts_nil _) (isInts_nil _) (by simp)).mono ?_
  rintro e w4 ⟨rfl, hq4⟩
  have hb4 := HST.out _ _ hb3 hq4
  clear hb3 hq4
  go_wp2_with fail
  refine (HSE.out _ hb4).mono ?_
  rintro e w5 ⟨rfl, hq5⟩
  have hb5 := HST.out _ _ hb4 hq5
  clear hb4 hq5
  go_wp2_with fail
  refine (HER.out _ hb5).mono ?_
  rintro e w6 ⟨rfl, hq6⟩
  have hb6 := HST.out _ _ hb5 hq6
  clear hb5 hq6
  go_wp2_with fail
  refine (same_ints [] _ _ _ (isInts_nil _) (isInts_nil _) (by simp)).mono ?_
  rintro e w7 ⟨rfl, hq7⟩
  have hb7 := HST.out _ _ hb6 hq7
  clear hb6 hq7
  go_wp2_with fail
  go_ret
  exact ⟨rfl, hb7⟩
set_option maxHeartbeats 4000000 in
theorem ptell_ok (hVO : ValuesOk) (hSO : SeenOk) (l : List Op3) (v : Value) (w : World) (h : IsOps w v l) (hc : (chk l).2 = 0) :
    Calls Tryd.prog 3 #[v] w fun e w' => e = .returned (.bool true) ∧ Below w.heap.size w w' := by
  have HI : Hid (∀ W, Below w.heap.size w W → IsOps W v l) := fun W hW => h.below hW (Nat.le_refl _)
  have HRR : Hid (Calls Tryd.prog 4 #[v] w fun e w' => e = .returned (.int .i64 0) ∧ Below w.heap.size w w') := by
    have h1 := refRight_any l _ w h
    rw [hc] at h1
    exact h1
  have HRP : Hid (∀ W, Below w.heap.size w W → Calls Tryd.prog 5 #[v] W fun e w' => ∃ v1 v2, e = .returned (.tuple #[v1, v2]) ∧ IsInts w' v1 (valsL (doneL l)) ∧ IsInts w' v2 (seenTo (doneL l) (doneL l).length) ∧ Below W.heap.size W w') := fun W hW => refPlay_any l v W (HI.out W hW) hc
  have HVA : Hid (∀ W, Below w.heap.size w W → Calls Tryd.prog 6 #[v] W fun e w' => ∃ v', e = .returned (.tuple #[v', .nilIface]) ∧ IsInts w' v' (valsL (doneL l)) ∧ Below W.heap.size W w') := fun W hW => hVO l v W (HI.out W hW) hc
  have HSE : Hid (∀ W, Below w.heap.size w W → Calls Tryd.prog 9 #[v] W fun e w' => ∃ v', e = .returned (.tuple #[v', .nilIface]) ∧ IsInts w' v' (seenTo (doneL l) (doneL l).length) ∧ Below W.heap.size W w') := fun W hW => hSO l v W (HI.out W hW) hc
  have HER : Hid (∀ W, Calls Tryd.prog 7 #[.nilIface, .int .i64 0] W fun e w' => e = .returned (.bool true) ∧ w' = W) := fun W => error_nil 0 W
  have HST : Hid (∀ W W', Below w.heap.size w W → Below W.heap.size W W' → Below w.heap.size w W') := fun W W' h1 h2 => h1.trans (h2.mono h1.size)
  have hlen : (seenTo (doneL l) (doneL l).length).length ≤ 140737488351 := by
    have h1 := seenTo_len (doneL l) (doneL l).length
    have h2 := chk_len (chk_done hc)
    omega
  have HLE : Hid ((seenTo (doneL l) (doneL l).length).length ≤ 140737488351 ∧ (valsL (doneL l)).length ≤ 140737488351) := ⟨hlen, vals_few _⟩
  obtain ⟨A, hA⟩ : ∃ A, valsL (doneL l) = A := ⟨_, rfl⟩
  obtain ⟨B, hB⟩ : ∃ B, seenTo (doneL l) (doneL l).length = B := ⟨_, rfl⟩
  rw [hA, hB] at HRP HLE
  rw [hA] at HVA
  rw [hB] at HSE
  clear h hc hVO hSO hlen hA hB
  go_enter Tryd.func3, Tryd.ntmps3
  go_wp2_with fail
  refine HRR.out.mono ?_
  rintro e w1 ⟨rfl, hb1⟩
  go_wp2_with fail
  refine (HRP.out _ hb1).mono ?_
  rintro e w2 ⟨v1, v2, rfl, hA2, hB2, hq2⟩
  have hb2 := HST.out _ _ hb1 hq2
  have HA2 : Hid (IsInts w2 v1 A) := hA2
  have HB2 : Hid (IsInts w2 v2 B) := hB2
  clear hb1 hq2 hA2 hB2
  go_wp2_with fail
  refine (HVA.out _ hb2).mono ?_
  rintro e w3 ⟨v3, rfl, hA3, hq3⟩
  have hb3 := HST.out _ _ hb2 hq3
  have HA3 : Hid (IsInts w3 v3 A ∧ IsInts w3 v1 A ∧ IsInts w3 v2 B) := ⟨hA3, HA2.out.below hq3 (Nat.le_refl _), HB2.out.below hq3 (Nat.le_refl _)⟩
  clear hb2 hq3 hA3
  go_wp2_with fail
  refine (HER.out _).mono ?_
  rintro e w4 ⟨rfl, hw4⟩
  rw [hw4]
  clear hw4
  go_wp2_with fail
  refine (same_ints A _ _ _ HA3.out.1 HA3.out.2.1 HLE.out.2).mono ?_
  rintro e w5 ⟨rfl, hq5⟩
  have hb5 := HST.out _ _ hb3 hq5
  have HB5 : Hid (IsInts w5 v2 B) := HA3.out.2.2.below hq5 (Nat.le_refl _)
  clear hb3 hq5
  go_wp2_with fail
  refine (HSE.out _ hb5).mono ?_
  rintro e w6 ⟨v6, rfl, hB6, hq6⟩
  have hb6 := HST.out _ _ hb5 hq6
  have HB6 : Hid (IsInts w6 v6 B ∧ IsInts w6 v2 B) := ⟨hB6, HB5.out.below hq6 (Nat.le_refl _)⟩
  clear hb5 hq6 hB6
  go_wp2_with fail
  refine (HER.out _).mono ?_
  rintro e w7 ⟨rfl, hw7⟩
  rw [hw7]
  clear hw7
  go_wp2_with fail
  refine (same_ints B _ _ _ HB6.out.1 HB6.out.2 HLE.out.1).mono ?_
  rintro e w8 ⟨rfl, hq8⟩
  have hb8 := HST.out _ _ hb6 hq8
  clear hb6 hq8
  go_wp2_with fail
  go_ret
  exact ⟨rfl, hb8⟩
end Go.Proofs.YtjaeaanpbdmfgadDoor
