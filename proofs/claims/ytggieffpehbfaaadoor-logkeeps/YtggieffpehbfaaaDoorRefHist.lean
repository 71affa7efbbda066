/-
  PROVED HERE: laneref1.Tx, History and Right answer as the plain functions say, whatever the list of ops; old memory stays as it was.
  Conditions: none.
-/
import Derived.Test.YtggieffpehbfaaaDoorOps
import Derived.Test.YtggieffpehbfaaaDoorDone
import Derived.Deep.QuietTactic
import Derived.BigQuiet
import Derived.WalkSmall
namespace Go.Proofs.YtggieffpehbfaaaDoor
open Go.RowKit

theorem refTx_any (t : Int) (w : World) : Calls Tryd.prog 31 #[.int .i64 t] w fun e w' => e = .returned (.bool (decide (1 ≤ t) && decide (t ≤ 6))) ∧ w' = w := by
  by_cases h : 1 ≤ t
  · go_enter Tryd.func31, Tryd.ntmps31
    go_wp2
    go_ret
    exact ⟨ret_bool (by simp [h]), rfl⟩
  · go_enter Tryd.func31, Tryd.ntmps31
    go_wp2
    go_ret
    exact ⟨ret_bool (by simp; omega), rfl⟩
theorem isOp_cases {t a i : Int} (h : isOpB (t, a, i) = false) : (decide (1 ≤ t) && decide (t ≤ 6)) = false ∨ ((decide (1 ≤ t) && decide (t ≤ 6)) = true ∧ (a < 1 ∨ (1 ≤ a ∧ 4 < a) ∨ (1 ≤ a ∧ a ≤ 4 ∧ 3 ≤ a ∧ i ≠ 0) ∨ (1 ≤ a ∧ a < 3 ∧ i < 1) ∨ (1 ≤ a ∧ a < 3 ∧ 1 ≤ i ∧ 6 < i))) := by
  cases hq : (decide (1 ≤ t) && decide (t ≤ 6)) with
  | false => exact .inl rfl
  | true =>
    refine .inr ⟨rfl, ?_⟩
    simp at hq
    by_cases h1 : a < 1
    · exact .inl h1
    · by_cases h2 : 4 < a
      · exact .inr (.inl ⟨by omega, h2⟩)
      · by_cases h3 : 3 ≤ a
        · refine .inr (.inr (.inl ⟨by omega, by omega, h3, fun h0 => ?_⟩))
          have he : endsB a = true := by
            rcases (show a = 3 ∨ a = 4 by omega) with rfl | rfl <;> rfl
          simp [isOpB, he, h0] at h; omega
        · have he : endsB a = false := by
            rcases (show a = 1 ∨ a = 2 by omega) with rfl | rfl <;> rfl
          by_cases h4 : i < 1
          · exact .inr (.inr (.inr (.inl ⟨by omega, by omega, h4⟩)))
          · refine .inr (.inr (.inr (.inr ⟨by omega, by omega, by omega, ?_⟩)))
            simp [isOpB, he] at h; omega
theorem isOp_good {t a i : Int} (h : isOpB (t, a, i) = true) : (decide (1 ≤ t) && decide (t ≤ 6)) = true ∧ 1 ≤ a ∧ a ≤ 4 ∧ ((3 ≤ a ∧ i = 0) ∨ (a < 3 ∧ 1 ≤ i ∧ i ≤ 6)) := by
  simp [isOpB] at h
  obtain ⟨⟨⟨⟨h1, h2⟩, h3⟩, h4⟩, h5⟩ := h
  refine ⟨by simp; omega, by omega, by omega, ?_⟩
  by_cases ha : 3 ≤ a
  · have he : endsB a = true := by rcases (show a = 3 ∨ a = 4 by omega) with rfl | rfl <;> rfl
    simp [he] at h5
    exact .inl ⟨ha, h5⟩
  · have he : endsB a = false := by rcases (show a = 1 ∨ a = 2 by omega) with rfl | rfl <;> rfl
    simp [he] at h5
    exact .inr ⟨by omega, h5.1, h5.2⟩
theorem ret_two {x y a b : Int} (h : x = y) (h2 : a = b) : Ending.returned (.tuple #[.int .i64 x, .int .i64 a]) = .returned (.tuple #[.int .i64 y, .int .i64 b]) := by rw [h, h2]
theorem endedIn_drop {l : List Op3} {j : Nat} {o : Op3} (ht : l.take (j + 1) = l.take j ++ [o]) (t : Int) : endedIn (l.take (j + 1)) t = (endedIn (l.take j) t || (o.1 == t && endsB o.2.1)) := by
  rw [ht, endedIn_snoc]
theorem endedIn_mono {l : List Op3} {j k : Nat} (h : j ≤ k) (t : Int) (he : endedIn (l.take j) t = true) : endedIn (l.take k) t = true := by
  simp only [endedIn, List.any_eq_true] at he ⊢
  obtain ⟨o, ho, h2⟩ := he
  have : l.take j = (l.take k).take j := by rw [List.take_take, Nat.min_eq_left h]
  rw [this] at ho
  exact ⟨o, List.mem_of_mem_take ho, h2⟩

set_option maxHeartbeats 8000000 in
set_option maxRecDepth 100000 in
theorem refHistory_any (l : List Op3) (v : Value) (w : World) (hI : IsOps w v l) :
    Calls Tryd.prog 25 #[v] w fun e w' => e = .returned (.tuple #[.int .i64 (chk l).1, .int .i64 (chk l).2]) ∧ Below w.heap.size w w' := by
  obtain ⟨ad, b, off, cap, rfl, ha, _, hbB, hops⟩ := hI
  by_cases h40 : 40 < l.length
  · have HC : Hid (chk l = (0, 4)) := by show chk l = (0, 4); unfold chk; rw [if_pos h40]
    clear ha hbB hops
    go_enter Tryd.func25, Tryd.ntmps25
    go_wp2
    go_ret2
    exact ⟨ret_two (by rw [HC.out]; rfl) (by rw [HC.out]), Below.refl _ _⟩
  · have HC : Hid (chk l = chkFrom [] l) := chk_short l (by omega)
    go_enter Tryd.func25, Tryd.ntmps25
    go_wp2
    go_loopw [4] (fun v4 wr => ∃ k : Nat, k ≤ l.length ∧ v4 = .int .i64 k ∧ chkFrom (l.take k) (l.drop k) = chk l ∧ (∀ o ∈ l.take k, isOpB o = true) ∧ Below w.heap.size w wr) (fun v4 _ => l.length - (intOf v4).toNat)
    case atStart => exact ⟨0, Nat.zero_le _, rfl, by rw [HC.out]; simp, fun o ho => (by simp at ho), Below.refl _ _⟩
    case round =>
      obtain ⟨k, hk, rfl, hck, hgood, hbel⟩ := hrel
      have HK : Hid (chkFrom (l.take k) (l.drop k) = chk l) := hck
      have HG : Hid (∀ o ∈ l.take k, isOpB o = true) := hgood
      clear hck hgood
      have hsz := hbel.size
      by_cases hlt : k < l.length
      · obtain rfl := ha (by omega)
        have hb1 : b < w.heap.size := by
          rcases hbB with h | h
          · exact h
          · subst h; simp at hlt
        have HO : Hid (OpsAt wr b off l) := hops.below hbel hbB
        obtain ⟨c0, c1, c2⟩ := HO.out k hlt
        obtain ⟨⟨t, a, i⟩, ho⟩ : ∃ o : Op3, l.getD k (0, 0, 0) = o := ⟨_, rfl⟩
        rw [ho] at c0 c1 c2
        have HD : Hid (l.drop k = (t, a, i) :: l.drop (k + 1)) := by
          show l.drop k = (t, a, i) :: l.drop (k + 1)
          rw [← ho]; simp [List.getD, List.getElem?_eq_getElem hlt]
        have HT : Hid (l.take (k + 1) = l.take k ++ [(t, a, i)]) := by
          show l.take (k + 1) = l.take k ++ [(t, a, i)]
          rw [List.take_succ_eq_append_getElem hlt, ← ho]; simp [List.getD, List.getElem?_eq_getElem hlt]
        clear ho hops ha hbB
        simp only at c0 c1 c2
        cases hop : isOpB (t, a, i) with
        | false =>
          have HR : Hid (chk l = (k, 1)) := chk_at1 hlt HK.out HD.out hop
          rcases isOp_cases hop with hq | ⟨hq, h1 | ⟨h1, h2⟩ | ⟨h1, h2, h3, h4⟩ | ⟨h1, h2, h3⟩ | ⟨h1, h2, h3, h4⟩⟩
          all_goals
            first
            | have hne : (i != 0) = true := by simpa using h4
              clear h4
            | skip
            clear hop
            go_wp2_with (go_at_call 31; refine (refTx_any _ _).mono ?_; rintro e w2 ⟨rfl, hw2⟩; subst hw2)
            go_ret2
            exact ⟨ret_two (by rw [HR.out]) (by rw [HR.out]), hbel.alloc (by omega) _⟩
        | true =>
          obtain ⟨hq, h1, h2, h3⟩ := isOp_good hop
          have HOP : Hid (isOpB (t, a, i) = true) := hop
          clear hop
          obtain ⟨W0, hW0⟩ : ∃ x : World, x = wr := ⟨_, rfl⟩
          subst hW0
          rcases h3 with ⟨h3, h4⟩ | ⟨h3, h4, h5⟩
          all_goals
            first
            | have hne : (i != 0) = false := by simpa using h4
              clear h4
            | skip
            go_wp2_with (go_at_call 31; refine (refTx_any _ _).mono ?_; rintro e w2 ⟨rfl, hw2⟩; subst hw2)
            go_loopw [7] (fun v7 wi => ∃ (j n : Nat), j ≤ k ∧ v7 = .int .i64 j ∧ endedIn (l.take j) t = false ∧ wi = (W0.alloc (.cells #[.int .i64 t, .int .i64 a, .int .i64 i] 32)).drewN n) (fun v7 _ => k - (intOf v7).toNat)
            case atStart => exact ⟨0, 0, Nat.zero_le _, rfl, by simp [endedIn], rfl⟩
            case round =>
              obtain ⟨j, n, hj, rfl, hen, hwi⟩ := hrel
              subst hwi
              have HEN : Hid (endedIn (l.take j) t = false) := hen
              clear hen
              by_cases hjk : j < k
              · obtain ⟨d0, d1, d2⟩ := HO.out j (by omega)
                obtain ⟨⟨t', a', i'⟩, ho⟩ : ∃ o : Op3, l.getD j (0, 0, 0) = o := ⟨_, rfl⟩
                rw [ho] at d0 d1 d2
                have HTJ : Hid (l.take (j + 1) = l.take j ++ [(t', a', i')]) := by
                  show l.take (j + 1) = l.take j ++ [(t', a', i')]
                  rw [List.take_succ_eq_append_getElem (show j < l.length by omega), ← ho]; simp [List.getD, List.getElem?_eq_getElem (show j < l.length by omega)]
                have HAE : Hid (endsB a' = decide (3 ≤ a')) := by
                  have hm : (t', a', i') ∈ l.take k := by
                    have : (t', a', i') ∈ l.take (j + 1) := by rw [HTJ.out]; simp
                    have e : l.take (j + 1) = (l.take k).take (j + 1) := by rw [List.take_take, Nat.min_eq_left (by omega)]
                    rw [e] at this
                    exact List.mem_of_mem_take this
                  exact isOp_ends (HG.out _ hm)
                clear ho
                simp only at d0 d1 d2
                have hbW : b < W0.heap.size := by omega
                have hjl : (j : Int) < (l.length : Int) := by omega
                by_cases hx : t' = t
                · subst hx
                  by_cases h3' : 3 ≤ a'
                  · have HE : Hid (endedIn (l.take k) t' = true) := endedIn_mono (show j + 1 ≤ k by omega) t' (by rw [endedIn_drop HTJ.out, HAE.out]; simp [h3'])
                    have HR : Hid (chk l = (k, 6)) := chk_at2 hlt HK.out HD.out HOP.out HE.out
                    go_wp2_with fail
                    go_quiet (fail)
                    go_wp2
                    go_ret2
                    exact ⟨ret_two (by rw [HR.out]) (by rw [HR.out]), below_drewN (below_drewN (hbel.alloc (by omega) _) _) _⟩
                  · have HE : Hid (endedIn (l.take (j + 1)) t' = false) := by show endedIn (l.take (j + 1)) t' = false; rw [endedIn_drop HTJ.out, HEN.out, HAE.out]; simp [h3']
                    go_wp2_with fail
                    go_quiet (fail)
                    go_wp2
                    go_roundw
                    case rel => exact ⟨j + 1, n + nq, by omega, by go_num, HE.out, rfl⟩
                    case measure => simp [intOf]; omega
                · have hx' : (t' == t) = false := by simpa using hx
                  have HE : Hid (endedIn (l.take (j + 1)) t = false) := by show endedIn (l.take (j + 1)) t = false; rw [endedIn_drop HTJ.out, HEN.out, hx']; simp
                  go_wp2_with fail
                  go_quiet (fail)
                  go_wp2
                  go_roundw
                  case rel => exact ⟨j + 1, n + nq, by omega, by go_num, HE.out, rfl⟩
                  case measure => simp [intOf]; omega
              · have HJ : Hid (j = k) := by show j = k; omega
                have HEK : Hid (endedIn (l.take k) t = false) := by show endedIn (l.take k) t = false; rw [← HJ.out]; exact HEN.out
                clear HEN
                go_wp2
                go_roundw
                case rel => exact ⟨k + 1, by omega, by go_num, chk_step HK.out HD.out HT.out HOP.out HEK.out, fun o hm => (by rw [HT.out] at hm; rcases List.mem_append.1 hm with h | h; exact HG.out o h; simp at h; subst h; exact HOP.out), below_drewN (hbel.alloc (by omega) _) _⟩
                case measure => simp [intOf]; omega
      · go_wp2
        go_ret2
        have hres := chk_end (by omega) HK.out
        exact ⟨ret_two (by rw [hres]; rfl) (by rw [hres]), hbel⟩
theorem refRight_any (l : List Op3) (v : Value) (w : World) (hI : IsOps w v l) :
    Calls Tryd.prog 16 #[v] w fun e w' => e = .returned (.int .i64 (chk l).2) ∧ Below w.heap.size w w' := by
  go_enter Tryd.func16, Tryd.ntmps16
  go_wp2_with (go_at_call 25; refine (refHistory_any l v _ hI).mono ?_; rintro e w1 ⟨rfl, hb1⟩)
  go_ret
  exact ⟨rfl, hb1⟩
end Go.Proofs.YtggieffpehbfaaaDoor
