/-
  PROVED HERE: tree.Check tells what is wrong with a tree (treeE). Memory stays as it was.
  Conditions: none.
  (Of these, what the claim wants: the rest was left out.)
-/
import Derived.Test.YtmgadiopjofegaiDoorRefTree
import Derived.BigQuiet
import Derived.Deep.QuietTactic
import Derived.Deep.Cut
namespace Go.Proofs.YtmgadiopjofegaiDoor
open Go.RowKit

set_option maxHeartbeats 8000000 in
theorem tcheck_any (up : List Int) (v : Value) (w : World) (hI : IsInts w v up) :
    Calls Tryd.prog 7 #[v] w fun e w' => e = .returned (errV (treeE up)) ∧ w' = w := by
  rw [treeE_eq]
  obtain ⟨ad, b, off, cap, rfl, ha, -, -, hc⟩ := hI
  have HE : Hid (∀ k, k < up.length → ad = some ⟨b, off, none⟩ ∧ w.cell? ⟨b, off + k, none⟩ = some (.int .i64 (up.getD k 0))) := fun k hk => ⟨ha (by omega), hc k hk⟩
  clear ha hc
  by_cases h1 : up.length < 1
  · rw [if_pos (.inl h1)]
    have h1' : (up.length : Int) < 1 := by omega
    clear HE h1
    go_enter Tryd.func7, Tryd.ntmps7
    go_wp2_with fail
    go_ret
    exact ⟨rfl, rfl⟩
  · by_cases h2 : 6 < up.length
    · rw [if_pos (.inr h2)]
      have h1' : ¬ (up.length : Int) < 1 := by omega
      have h2' : (6 : Int) < (up.length : Int) := by omega
      clear HE h1 h2
      go_enter Tryd.func7, Tryd.ntmps7
      go_wp2_with fail
      go_ret
      exact ⟨rfl, rfl⟩
    · rw [if_neg (by omega)]
      obtain ⟨n, hn⟩ : ∃ n, up.length = n := ⟨_, rfl⟩
      rw [hn] at HE h1 h2 ⊢
      have h1' : ¬ (n : Int) < 1 := by omega
      have h2' : ¬ (6 : Int) < (n : Int) := by omega
      have h0' : (0 : Int) < (n : Int) := by omega
      obtain ⟨rfl, c0⟩ := HE.out 0 (by omega)
      obtain ⟨u0, hu0⟩ : ∃ u, up.getD 0 0 = u := ⟨_, rfl⟩
      rw [hu0] at c0 ⊢
      rw [Nat.add_zero] at c0
      by_cases h3 : u0 = 0
      · subst h3
        rw [if_neg (by simp)]
        obtain ⟨r, hr⟩ : ∃ r : Value, errV (if upTo? up n = true then (1 : Int) else 0) = r := ⟨_, rfl⟩
        rw [hr]
        have HRR := hid_r hr
        clear hn hr
        go_enter Tryd.func7, Tryd.ntmps7
        go_wp2_with fail
        go_loopw [3] (fun v3 wr => ∃ k : Nat, 1 ≤ k ∧ k ≤ n ∧ v3 = .int .i64 k ∧ upTo? up k = false ∧ wr = w) (fun v3 _ => n - (intOf v3).toNat)
        case atStart => exact ⟨1, Nat.le_refl _, by omega, rfl, by simp [upTo?, upBad], rfl⟩
        case round =>
          obtain ⟨k, hk1, hk, rfl, hno, hwr⟩ := hrel
          rw [hwr]
          clear hwr
          have HNO := hid_r hno
          clear hno
          by_cases hlt : k < n
          · have hlt' : (k : Int) < (n : Int) := by omega
            have hk0 : (0 : Int) ≤ (k : Int) := by omega
            have hkn : ¬ (k : Int) < 0 := by omega
            obtain ⟨-, ck⟩ := HE.out k hlt
            obtain ⟨u, hu⟩ : ∃ u, up.getD k 0 = u := ⟨_, rfl⟩
            rw [hu] at ck
            have HB : Hid (upBad up k = (decide (u < 1) || decide ((k : Int) < u))) := by show _ = _; unfold upBad; rw [hu, decide_eq_true (show 0 < k by omega), Bool.true_and]
            clear hu
            by_cases g1 : u < 1
            · have HY : Hid (upTo? up n = true) := upTo?_mono (k := k + 1) (by rw [upTo?_succ, HB.out, decide_eq_true g1]; simp) (by omega)
              go_wp2_with fail
              go_ret
              exact ⟨by rw [← HRR.out, if_pos HY.out]; rfl, rfl⟩
            · by_cases g2 : (k : Int) < u
              · have HY : Hid (upTo? up n = true) := upTo?_mono (k := k + 1) (by rw [upTo?_succ, HB.out, decide_eq_true g2]; simp) (by omega)
                go_wp2_with fail
                go_ret
                exact ⟨by rw [← HRR.out, if_pos HY.out]; rfl, rfl⟩
              · have HN : Hid (upTo? up (k + 1) = false) := by show _ = _; rw [upTo?_succ, HB.out, HNO.out, decide_eq_false g1, decide_eq_false g2]; rfl
                go_wp2_with fail
                go_roundw
                case rel => exact ⟨k + 1, by omega, by omega, by go_num, HN.out, trivial⟩
                case measure => simp [intOf]; omega
          · have hlt' : ¬ (k : Int) < (n : Int) := by omega
            have HY : Hid (¬ upTo? up n = true) := by show ¬ _; rw [show n = k by omega, HNO.out]; decide
            go_wp2_with fail
            go_ret
            exact ⟨by rw [← HRR.out, if_neg HY.out]; rfl, rfl⟩
      · rw [if_pos h3]
        have h3' : (u0 != 0) = true := by simpa using h3
        clear hn h3 HE
        go_enter Tryd.func7, Tryd.ntmps7
        go_wp2_with fail
        go_ret
        exact ⟨rfl, rfl⟩
end Go.Proofs.YtmgadiopjofegaiDoor
