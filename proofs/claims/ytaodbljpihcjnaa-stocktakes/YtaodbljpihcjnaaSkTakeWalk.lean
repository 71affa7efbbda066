/-
  PROVED HERE: lanelaw4.StockTakes returns true, whatever the numbers, if package stock answers as it is asked; old memory stays as it was.
  Conditions: package stock's contract (StockW).
-/
import Derived.Test.YtaodbljpihcjnaaSkAsk
namespace Go.Proofs.Ytaodbljpihcjnaa
open Go.RowKit

theorem mul_small {m each : Int} (h0 : 0 ≤ m) (h7 : m ≤ 7) (he1 : 1 ≤ each) (he : each ≤ 1000000) : 0 ≤ m * each ∧ m * each ≤ 7000000 := by
  obtain rfl | rfl | rfl | rfl | rfl | rfl | rfl | rfl : m = 0 ∨ m = 1 ∨ m = 2 ∨ m = 3 ∨ m = 4 ∨ m = 5 ∨ m = 6 ∨ m = 7 := by omega
  all_goals omega
set_option maxHeartbeats 8000000 in
set_option maxRecDepth 100000 in
theorem sktake_any {Rep : World → Nat → Stk → (Nat → Prop) → Prop} (hR : StockW Rep) (n each : Int) (w : World) :
    Calls Try.prog 4 #[.int .i64 n, .int .i64 each] w fun e w' => e = .returned (.bool true) ∧ Below w.heap.size w w' := by
  have HNW := hid_k (sk_new hR n w)
  have HAS : Hid (∀ w0 W p s t d, SkAt Rep w0 W p s → Calls Try.prog 6 #[ptK p, .int .i64 t, .int .i64 d] W fun e w' => e = .returned (.tuple #[.bool (askB s t d), errV (askE t d)]) ∧ SkAt Rep w0 w' p (askS s t d)) := fun w0 W p s t d h => sk_ask hR h t d
  have HNO : Hid (∀ w0 W p s, SkAt Rep w0 W p s → Calls Try.prog 9 #[ptK p] W fun e w' => e = .returned (.int .i64 s.now) ∧ Below W.heap.size W w') := fun w0 W p s h => sk_now hR h
  have HRA : Hid (∀ w0 W p s, SkAt Rep w0 W p s → Calls Try.prog 8 #[ptK p] W fun e w' => e = .returned (.tuple #[.int .i64 (lowK s), .int .i64 (highK s)]) ∧ Below W.heap.size W w') := fun w0 W p s h => sk_range hR h
  clear hR
  unfold ptK at HNW HAS HNO HRA
  go_enter Try.func4, Try.ntmps4
  go_wp2_with fail
  refine HNW.out.mono ?_
  rintro e w1 (⟨hn, hb1, po, rfl⟩ | ⟨⟨hn0, hn1⟩, p, rfl, hs⟩)
  · have HB1 := hid_k hb1
    clear hb1
    by_cases h0 : n < 0
    · clear hn
      go_wp2_with fail
      go_ret
      exact ⟨rfl, HB1.out⟩
    · have h1 : (1000000 : Int) < n := by omega
      clear hn
      go_wp2_with fail
      go_ret
      exact ⟨rfl, HB1.out⟩
  · have HS := hid_k hs
    clear hs
    by_cases he : each < 1 ∨ 1000000 < each
    · have HN1 := hid_k (HNO.out w w1 p _ HS.out)
      have HST : Hid ((stk0 n).now = n) := rfl
      rw [HST.out] at HN1
      by_cases h1 : each < 1
      · clear he
        go_wp2_with fail
        refine HN1.out.mono ?_
        rintro e w2 ⟨rfl, hb2⟩
        have HB2 : Hid (Below w.heap.size w w2) := HS.out.2.1.trans (hb2.mono HS.out.2.1.size)
        clear hb2
        go_wp2_with fail
        go_ret
        exact ⟨by simp, HB2.out⟩
      · have h2 : (1000000 : Int) < each := by omega
        clear he
        go_wp2_with fail
        refine HN1.out.mono ?_
        rintro e w2 ⟨rfl, hb2⟩
        have HB2 : Hid (Below w.heap.size w w2) := HS.out.2.1.trans (hb2.mono HS.out.2.1.size)
        clear hb2
        go_wp2_with fail
        go_ret
        exact ⟨by simp, HB2.out⟩
    · have he1 : ¬ each < 1 := by omega
      have he2 : ¬ (1000000 : Int) < each := by omega
      clear he
      go_wp2_with fail
      go_loopw [7, 8] (fun v7 v8 wr => ∃ k m : Nat, k ≤ 6 ∧ m ≤ k ∧ v8 = .int .i64 ((k : Int) + 1) ∧ v7 = .int .i64 (m : Int) ∧ (m < k → n < ((m : Int) + 1) * each) ∧ SkAt Rep w wr p (takeS n each (m : Int))) (fun _ v8 _ => 7 - (intOf v8).toNat)
      case atStart => exact ⟨0, 0, by omega, by omega, rfl, rfl, fun h => absurd h (by omega), by
        have e : takeS n each ((0 : Nat) : Int) = stk0 n := by
          unfold takeS stk0
          congr 1
          funext t
          exact if_neg (by omega)
        rw [e]; exact HS.out⟩
      case round =>
        obtain ⟨k, m, hk, hm, rfl, rfl, hrest, hsk⟩ := hrel
        have HRS := hid_k hrest
        have HK := hid_k hsk
        clear hrest hsk HS
        by_cases hk6 : k < 6
        · have hk6' : (k : Int) + 1 ≤ 6 := by omega
          have hta := takeS_ask hk6 hm (by omega : 1 ≤ each) (by omega) HRS.out
          have HC := hid_k (HAS.out w wr p (takeS n each m) ((k : Int) + 1) (-each) HK.out)
          rw [hta.1, hta.2.1, hta.2.2] at HC
          have HEV : Hid (errV 0 = .nilIface) := if_pos rfl
          rw [HEV.out] at HC
          have hms := mul_small (m := (m : Int) + 1) (by omega) (by omega) (by omega : 1 ≤ each) (by omega)
          obtain ⟨M, hM⟩ : ∃ M, ((m : Int) + 1) * each = M := ⟨_, rfl⟩
          rw [hM] at HC hms
          have HM := hid_k hM
          clear hta
          by_cases hle : M ≤ n
          · rw [decide_eq_true hle, if_pos hle] at HC
            go_wp2_with fail
            refine HC.out.mono ?_
            rintro e w2 ⟨rfl, hs2⟩
            have HS2 := hid_k hs2
            clear hs2
            go_wp2_with fail
            go_roundw
            case rel => exact ⟨k + 1, m + 1, by omega, by omega, by go_num, by go_num, fun h => by
              have h1 := HRS.out (by omega)
              rw [HM.out] at h1
              omega, by
              have e : (((m + 1 : Nat)) : Int) = (m : Int) + 1 := by omega
              rw [e]; exact HS2.out⟩
            case measure => simp [intOf]; omega
          · rw [decide_eq_false hle, if_neg hle] at HC
            have HLT : Hid (n < ((m : Int) + 1) * each) := by show _ < _; rw [HM.out]; omega
            go_wp2_with fail
            refine HC.out.mono ?_
            rintro e w2 ⟨rfl, hs2⟩
            have HS2 := hid_k hs2
            clear hs2
            go_wp2_with fail
            go_roundw
            case rel => exact ⟨k + 1, m, by omega, by omega, by go_num, rfl, fun _ => HLT.out, HS2.out⟩
            case measure => simp [intOf]; omega
        · have hk6' : ¬ (k : Int) + 1 ≤ 6 := by omega
          have hlh := takeS_low (n := n) (each := each) (m := (m : Int)) (by omega) (by omega)
          have HC := hid_k (HRA.out w wr p (takeS n each m) HK.out)
          rw [hlh.1, hlh.2] at HC
          have hms := mul_small (m := (m : Int)) (by omega) (by omega) (by omega : 1 ≤ each) (by omega)
          obtain ⟨M, hM⟩ : ∃ M, (m : Int) * each = M := ⟨_, rfl⟩
          rw [hM] at HC hms
          clear hlh
          go_wp2_with fail
          refine HC.out.mono ?_
          rintro e w2 ⟨rfl, hb2⟩
          have HB2 : Hid (Below w.heap.size w w2) := HK.out.2.1.trans (hb2.mono HK.out.2.1.size)
          clear hb2
          go_wp2_with fail
          go_ret
          exact ⟨by simp, HB2.out⟩
end Go.Proofs.Ytaodbljpihcjnaa
