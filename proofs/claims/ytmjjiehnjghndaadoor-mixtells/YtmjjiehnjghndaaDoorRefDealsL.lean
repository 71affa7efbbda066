/-
  PROVED HERE: laneref1.Deals gives the deals of ops, put in one by one; laneref1.Along gives the ops of deals along an order; lanesame.Ints tells whether two lists of numbers are one. Old memory stays as it was.
  Conditions: the lists are short; along an order each deal has an op.
  (Of these, what the claim wants: the rest was left out.)
-/
import Derived.Test.YtmjjiehnjghndaaDoorRefPut
import Derived.Test.YtmjjiehnjghndaaDoorMgaq
import Derived.Test.YtmjjiehnjghndaaDoorMgal
import Derived.Deep.QuietTactic
import Derived.BigQuiet
import Derived.WalkSmall
namespace Go.Proofs.YtmjjiehnjghndaaDoor
open Go.RowKit

set_option maxHeartbeats 2000000 in
theorem refDeals_any (l : List Op3) (v : Value) (w : World) (hI : IsOps w v l) (hl : l.length ≤ 40) :
    Calls Tryd.prog 16 #[v] w fun e w' => ∃ v', e = .returned v' ∧ IsInts w' v' (putsL (l.map (·.1))) ∧ Below w.heap.size w w' := by
  obtain ⟨ad, b, off, cap, rfl, ha, -, hbB, hops⟩ := hI
  have HE : Hid (∀ W, Below w.heap.size w W → ∀ k, k < l.length → ad = some ⟨b, off, none⟩ ∧ W.cell? ⟨b, off + k * 3, none⟩ = some (.int .i64 (l.getD k (0, 0, 0)).1)) := fun W hW k hk => ⟨ha (by omega), ((hops.below hW hbB) k hk).1⟩
  have HLN : Hid (∀ k, (putsL ((l.take k).map (·.1))).length ≤ 40) := fun k => by
    have h1 := putsL_len ((l.take k).map (·.1))
    have h2 := List.length_take_le' k l
    rw [List.length_map] at h1
    omega
  clear ha hbB hops
  go_enter Tryd.func16, Tryd.ntmps16
  go_wp2_with fail
  go_loopw [3, 4] (fun v3 v4 wr => ∃ k : Nat, k ≤ l.length ∧ v4 = .int .i64 k ∧ IsInts wr v3 (putsL ((l.take k).map (·.1))) ∧ Below w.heap.size w wr) (fun _ v4 _ => l.length - (intOf v4).toNat)
  case atStart => exact ⟨0, Nat.zero_le _, rfl, isInts_nil _, Below.refl _ _⟩
  case round =>
    obtain ⟨k, hk, rfl, hI, hbel⟩ := hrel
    have HI : Hid (IsInts wr u3 (putsL ((l.take k).map (·.1)))) := hI
    clear hI
    by_cases hlt : k < l.length
    · have hlt' : (k : Int) < (l.length : Int) := by omega
      obtain ⟨hadr, c0⟩ := HE.out wr hbel k hlt
      subst hadr
      obtain ⟨t, ht⟩ : ∃ t, (l.getD k (0, 0, 0)).1 = t := ⟨_, rfl⟩
      rw [ht] at c0
      have HT : Hid (putsL ((l.take (k + 1)).map (·.1)) = putL (putsL ((l.take k).map (·.1))) t) := by
        show putsL ((l.take (k + 1)).map (·.1)) = _
        rw [List.take_succ_eq_append_getElem hlt, List.map_append, ← putsL_snoc, ← ht]
        simp [List.getD, List.getElem?_eq_getElem hlt]
      clear ht
      go_wp2_with fail
      refine (put_any _ _ t _ HI.out (by have := HLN.out k; omega)).mono ?_
      rintro e w1 ⟨v1, rfl, hI1, hb1⟩
      have HI1 : Hid (IsInts w1 v1 (putsL ((l.take (k + 1)).map (·.1)))) := by rw [HT.out]; exact hI1
      clear hI1
      go_wp2_with fail
      go_roundw
      case rel => exact ⟨k + 1, by omega, by go_num, HI1.out, hbel.trans (hb1.mono hbel.size)⟩
      case measure => simp [intOf]; omega
    · have hlt' : ¬ (k : Int) < (l.length : Int) := by omega
      have HF : Hid (IsInts wr u3 (putsL (l.map (·.1)))) := by
        have h1 := HI.out
        rw [List.take_of_length_le (by omega)] at h1
        exact h1
      go_wp2_with fail
      go_ret
      exact ⟨_, rfl, HF.out, hbel⟩

end Go.Proofs.YtmjjiehnjghndaaDoor
