/-
  PROVED HERE: laneref1.Tx and Graph answer as plain functions on numbers and edges say. Nothing turns.
  Conditions: none.
-/
import Derived.Test.YtjaeaanpbdmfgabDoorGraphBools
import Derived.Test.YtjaeaanpbdmfgabDoorRefIn
namespace Go.Proofs.YtjaeaanpbdmfgabDoor
open Go.RowKit

theorem retI {a b : Int} (h : a = b) : Ending.returned (.int .i64 a) = .returned (.int .i64 b) := by rw [h]
theorem gTx_any (t : Int) (w : World) : Calls Tryd.prog 15 #[.int .i64 t] w fun e w' => e = .returned (.bool (dealB t)) ∧ w' = w := by
  go_enter Tryd.func15, Tryd.ntmps15
  go_wp2
  all_goals go_ret
  all_goals exact ⟨retB (by simp_all [dealB] <;> omega), rfl⟩
set_option maxHeartbeats 4000000 in
theorem refGraph_any (l : List Edge2) (v : Value) (w : World) (hI : IsEdges w v l) :
    Calls Tryd.prog 6 #[v] w fun e w' => e = .returned (.int .i64 (gchk l)) ∧ Below w.heap.size w w' := by
  obtain ⟨ad, b, off, cap, rfl, ha, -, hbB, hops⟩ := hI
  have HE : Hid (∀ k, k < l.length → ad = some ⟨b, off, none⟩ ∧ w.cell? ⟨b, off + k * 2, none⟩ = some (.int .i64 (l.getD k (0, 0)).1) ∧ w.cell? ⟨b, off + k * 2 + 1, none⟩ = some (.int .i64 (l.getD k (0, 0)).2)) := fun k hk => ⟨ha (by omega), hops k hk⟩
  clear ha hbB hops
  by_cases hl : 60 < l.length
  · have HG : Hid (gchk l = 4) := by show gchk l = 4; unfold gchk; rw [if_pos hl]
    have hl' : (60 : Int) < (l.length : Int) := by omega
    go_enter Tryd.func6, Tryd.ntmps6
    go_wp2_with fail
    go_ret
    exact ⟨retI HG.out.symm, Below.refl _ _⟩
  · have hl' : ¬ (60 : Int) < (l.length : Int) := by omega
    have HG : Hid (gchk l = if l.any wrongB = true then 1 else 0) := by show gchk l = _; unfold gchk; rw [if_neg hl]
    clear hl
    go_enter Tryd.func6, Tryd.ntmps6
    go_wp2_with fail
    go_loopw [3] (fun v3 wr => ∃ k : Nat, k ≤ l.length ∧ v3 = .int .i64 k ∧ (l.take k).any wrongB = false ∧ wr = w) (fun v3 _ => l.length - (intOf v3).toNat)
    case atStart => exact ⟨0, Nat.zero_le _, rfl, rfl, rfl⟩
    case round =>
      obtain ⟨k, hk, rfl, hno, hwr⟩ := hrel
      rw [hwr]
      clear hwr
      have HNO : Hid ((l.take k).any wrongB = false) := hno
      clear hno
      by_cases hlt : k < l.length
      · obtain ⟨rfl, c0, c1⟩ := HE.out k hlt
        obtain ⟨⟨t, a⟩, ho⟩ : ∃ o : Edge2, l.getD k (0, 0) = o := ⟨_, rfl⟩
        rw [ho] at c0 c1
        simp only at c0 c1
        have HM : Hid ((t, a) ∈ l) := by show (t, a) ∈ l; rw [← ho]; simp [List.getD, List.getElem?_eq_getElem hlt]
        have HT : Hid ((l.take (k + 1)).any wrongB = wrongB (t, a)) := by
          show (l.take (k + 1)).any wrongB = wrongB (t, a)
          rw [List.take_succ_eq_append_getElem hlt, List.any_append, HNO.out, ← ho]
          simp [List.getD, List.getElem?_eq_getElem hlt]
        clear ho
        go_wp2_with fail
        refine (gTx_any _ _).mono ?_
        rintro e wx ⟨rfl, hwx⟩
        rw [hwx]; clear hwx
        go_wp2_with fail
        refine (gTx_any _ _).mono ?_
        rintro e wx ⟨rfl, hwx⟩
        rw [hwx]; clear hwx
        cases h1 : dealB t with
        | false =>
          have HR : Hid (gchk l = 1) := by
            show gchk l = 1
            rw [HG.out, if_pos (List.any_eq_true.2 ⟨_, HM.out, by simp [wrongB, h1]⟩)]
          go_wp2_with fail
          go_ret
          exact ⟨retI HR.out.symm, Below.refl _ _⟩
        | true =>
          cases h2 : dealB a with
          | false =>
            have HR : Hid (gchk l = 1) := by
              show gchk l = 1
              rw [HG.out, if_pos (List.any_eq_true.2 ⟨_, HM.out, by simp [wrongB, h2]⟩)]
            go_wp2_with fail
            go_ret
            exact ⟨retI HR.out.symm, Below.refl _ _⟩
          | true =>
            have HN : Hid ((l.take (k + 1)).any wrongB = false) := by
              show (l.take (k + 1)).any wrongB = false
              rw [HT.out]; simp [wrongB, h1, h2]
            go_wp2_with fail
            go_roundw
            case rel => exact ⟨k + 1, by omega, by go_num, HN.out, trivial⟩
            case measure => simp [intOf]; omega
      · have HR : Hid (gchk l = 0) := by
          show gchk l = 0
          have h0 := HNO.out
          rw [List.take_of_length_le (by omega)] at h0
          rw [HG.out, h0]; rfl
        go_wp2_with fail
        go_ret
        exact ⟨retI HR.out.symm, Below.refl _ _⟩
end Go.Proofs.YtjaeaanpbdmfgabDoor
