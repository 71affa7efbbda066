/-
  PROVED HERE: nothing yet of package play: what play.Values is asked to answer (ValuesOk), for the laws that call it.
  Conditions: none.
  PROVED HERE: laneref1.In tells whether a number is in a list. Nothing turns.
  Conditions: none.
-/
import Derived.Test.YtmjjiehnjghndaaGreatMgav
import Derived.Test.YtmjjiehnjghndaaGreatMgad
import Derived.Test.YtmjjiehnjghndaaGreatMgae
import Derived.Test.YtmjjiehnjghndaaGreatMgab
namespace Go.Proofs.YtmjjiehnjghndaaGreat
open Go.RowKit

/-- What play.Values answers at a right list. -/
def ValuesOk : Prop := ∀ (l : List Op3) (v : Value) (w : World), IsOps w v l → (chk l).2 = 0 →
  Calls Tryz.prog 9 #[v] w fun e w' => ∃ v', e = .returned (.tuple #[v', .nilIface]) ∧ IsInts w' v' (valsL (doneL l)) ∧ Below w.heap.size w w'

theorem vals_few (d : List Op3) : (valsL d).length ≤ 140737488351 := by
  unfold valsL; simp
end Go.Proofs.YtmjjiehnjghndaaGreat

namespace Go.Proofs.YtmjjiehnjghndaaGreat
open Go.RowKit

theorem retB {a b : Bool} (h : a = b) : Ending.returned (.bool a) = .returned (.bool b) := by rw [h]
set_option maxHeartbeats 2000000 in
theorem in_any (l : List Int) (v : Value) (n : Int) (w : World) (hI : IsInts w v l) (hl : l.length ≤ 1000) :
    Calls Tryz.prog 11 #[v, .int .i64 n] w fun e w' => e = .returned (.bool (inB l n)) ∧ w' = w := by
  obtain ⟨ad, b, off, cap, rfl, ha, -, -, hc⟩ := hI
  have HE : Hid (∀ k, k < l.length → ad = some ⟨b, off, none⟩ ∧ w.cell? ⟨b, off + k, none⟩ = some (.int .i64 (l.getD k 0))) := fun k hk => ⟨ha (by omega), hc k hk⟩
  clear ha hc
  go_enter Tryz.func11, Tryz.ntmps11
  go_wp2_with fail
  go_loopw [5] (fun v5 wr => ∃ k : Nat, k ≤ l.length ∧ v5 = .int .i64 k ∧ inB (l.take k) n = false ∧ wr = w) (fun v5 _ => l.length - (intOf v5).toNat)
  case atStart => exact ⟨0, Nat.zero_le _, rfl, rfl, rfl⟩
  case round =>
    obtain ⟨k, hk, rfl, hno, hwr⟩ := hrel
    rw [hwr]
    clear hwr
    have HNO : Hid (inB (l.take k) n = false) := hno
    clear hno
    by_cases hlt : k < l.length
    · obtain ⟨rfl, c0⟩ := HE.out k hlt
      obtain ⟨t, ho⟩ : ∃ t, l.getD k 0 = t := ⟨_, rfl⟩
      rw [ho] at c0
      have HM : Hid (t ∈ l) := by show t ∈ l; rw [← ho]; simp [List.getD, List.getElem?_eq_getElem hlt]
      have HT : Hid (l.take (k + 1) = l.take k ++ [t]) := by
        show l.take (k + 1) = l.take k ++ [t]
        rw [List.take_succ_eq_append_getElem hlt, ← ho]; simp [List.getD, List.getElem?_eq_getElem hlt]
      clear ho
      cases hq : (t == n) with
      | false =>
        have HN : Hid (inB (l.take (k + 1)) n = false) := by
          show inB (l.take (k + 1)) n = false
          have h1 := inB_not.1 HNO.out
          refine inB_not.2 fun h => ?_
          rw [HT.out, List.mem_append, List.mem_singleton] at h
          rcases h with h | h
          · exact h1 h
          · rw [h] at hq; simp at hq
        go_wp2_with fail
        go_roundw
        case rel => exact ⟨k + 1, by omega, by go_num, HN.out, trivial⟩
        case measure => simp [intOf]; omega
      | true =>
        have HR : Hid (inB l n = true) := by
          show inB l n = true
          have : t = n := by simpa using hq
          rw [← this]; exact inB_iff.2 HM.out
        go_wp2_with fail
        go_ret
        exact ⟨retB HR.out.symm, rfl⟩
    · have HR : Hid (inB l n = false) := by
        show inB l n = false
        have h0 := HNO.out
        rw [List.take_of_length_le (by omega)] at h0
        exact h0
      go_wp2_with fail
      go_ret
      exact ⟨retB HR.out.symm, rfl⟩
end Go.Proofs.YtmjjiehnjghndaaGreat
