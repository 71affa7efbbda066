/-
  PROVED HERE: laneref1.Tx, History and Right answer as the plain functions say, whatever the list of ops; old memory stays as it was.
  Conditions: none.
  PROVED HERE: laneref1.End answers as the plain function endOf says of the first ops of a list; nothing turns.
  Conditions: none.
-/
import Derived.Test.YtccjognnehoodafMgac
import Derived.Test.YtccjognnehoodafMgad
import Derived.Deep.QuietTactic
import Derived.BigQuiet
import Derived.WalkSmall
import Derived.Test.YtccjognnehoodafMgab
namespace Go.Proofs.Ytccjognnehoodaf
open Go.RowKit

theorem refTx_any (t : Int) (w : World) : Calls Try.prog 35 #[.int .i64 t] w fun e w' => e = .returned (.bool (decide (1 ≤ t) && decide (t ≤ 6))) ∧ w' = w := by
  by_cases h : 1 ≤ t
  · go_enter Try.func35, Try.ntmps35
    go_wp2
    go_ret
    exact ⟨ret_bool (by simp [h]), rfl⟩
  · go_enter Try.func35, Try.ntmps35
    go_wp2
    go_ret
    exact ⟨ret_bool (by simp; omega), rfl⟩
theorem isOp_cases {t a i : Int} (h : isOpB (t, a, i) = false) : (decide (1 ≤ t) && decide (t ≤ 6)) = false ∨ ((decide (1 ≤ t) && decide (t ≤ 6)) = true ∧ (a < 1 ∨ (1 ≤ a ∧ 4 < a) ∨ (1 ≤ a ∧ a ≤ 4 ∧ 3 ≤ a ∧ i ≠ 0) ∨ (1 ≤ a ∧ a < 3 ∧ i < 1) ∨ (1 ≤ a ∧ a < 3 ∧ 1 ≤ i ∧ 6 < i))) := by
  cases hq : (decide (1 ≤ t) && decide (t ≤ 6)) with
  | false => exact .inl rfl
  | true =>
    refine .inr ⟨rfl, ?_⟩
    simp at hq
    by_cases h1 : a < 1
    · exact .inl h1
    · by_cases h2 : 4 < a
      · exact .inr (.inl ⟨by omega, h2⟩)
      · by_cases h3 : 3 ≤ a
        · refine .inr (.inr (.inl ⟨by omega, by omega, h3, fun h0 => ?_⟩))
          have he : endsB a = true := by
            rcases (show a = 3 ∨ a = 4 by omega) with rfl | rfl <;> rfl
          simp [isOpB, he, h0] at h; omega
        · have he : endsB a = false := by
            rcases (show a = 1 ∨ a = 2 by omega) with rfl | rfl <;> rfl
          by_cases h4 : i < 1
          · exact .inr (.inr (.inr (.inl ⟨by omega, by omega, h4⟩)))
          · refine .inr (.inr (.inr (.inr ⟨by omega, by omega, by omega, ?_⟩)))
            simp [isOpB, he] at h; omega
theorem isOp_good {t a i : Int} (h : isOpB (t, a, i) = true) : (decide (1 ≤ t) && decide (t ≤ 6)) = true ∧ 1 ≤ a ∧ a ≤ 4 ∧ ((3 ≤ a ∧ i = 0) ∨ (a < 3 ∧ 1 ≤ i ∧ i ≤ 6)) := by
  simp [isOpB] at h
  obtain ⟨⟨⟨⟨h1, h2⟩, h3⟩, h4⟩, h5⟩ := h
  refine ⟨by simp; omega, by omega, by omega, ?_⟩
  by_cases ha : 3 ≤ a
  · have he : endsB a = true := by rcases (show a = 3 ∨ a = 4 by omega) with rfl | rfl <;> rfl
    simp [he] at h5
    exact .inl ⟨ha, h5⟩
  · have he : endsB a = false := by rcases (show a = 1 ∨ a = 2 by omega) with rfl | rfl <;> rfl
    simp [he] at h5
    exact .inr ⟨by omega, h5.1, h5.2⟩
theorem ret_two {x y a b : Int} (h : x = y) (h2 : a = b) : Ending.returned (.tuple #[.int .i64 x, .int .i64 a]) = .returned (.tuple #[.int .i64 y, .int .i64 b]) := by rw [h, h2]
theorem endedIn_drop {l : List Op3} {j : Nat} {o : Op3} (ht : l.take (j + 1) = l.take j ++ [o]) (t : Int) : endedIn (l.take (j + 1)) t = (endedIn (l.take j) t || (o.1 == t && endsB o.2.1)) := by
  rw [ht, endedIn_snoc]
theorem endedIn_mono {l : List Op3} {j k : Nat} (h : j ≤ k) (t : Int) (he : endedIn (l.take j) t = true) : endedIn (l.take k) t = true := by
  simp only [endedIn, List.any_eq_true] at he ⊢
  obtain ⟨o, ho, h2⟩ := he
  have : l.take j = (l.take k).take j := by rw [List.take_take, Nat.min_eq_left h]
  rw [this] at ho
  exact ⟨o, List.mem_of_mem_take ho, h2⟩

end Go.Proofs.Ytccjognnehoodaf

namespace Go.Proofs.Ytccjognnehoodaf
open Go.RowKit

theorem ret_int {x y : Int} (h : x = y) : Ending.returned (.int .i64 x) = .returned (.int .i64 y) := by rw [h]
/-- The tail of a search: what is left behind k ops of which none is it. -/
theorem endOf_drop {l : List Op3} {k : Nat} {o : Op3} (hd : l.drop k = o :: l.drop (k + 1)) (t : Int) : endOf (l.drop k) t = if o.1 = t ∧ 3 ≤ o.2.1 then o.2.1 else endOf (l.drop (k + 1)) t := by
  rw [hd]; rfl

set_option maxHeartbeats 2000000 in
theorem end_any (l : List Op3) (ad : Option Addr) (b off cap : Nat) (t : Int) (w : World) (hlen : l.length ≤ 140737488351232) (ha : 0 < l.length → ad = some ⟨b, off, none⟩) (hops : OpsAt w b off l) :
    Calls Try.prog 39 #[.slice ad l.length cap, .int .i64 t, .int .i64 l.length] w fun e w' => e = .returned (.int .i64 (endOf l t)) ∧ w' = w := by
  go_enter Try.func39, Try.ntmps39
  go_wp2
  go_loop [7] (fun v7 => ∃ k : Nat, k ≤ l.length ∧ v7 = .int .i64 k ∧ endOf (l.drop k) t = endOf l t) (fun v7 => l.length - (intOf v7).toNat)
  case atStart => exact ⟨0, Nat.zero_le _, rfl, rfl⟩
  case round =>
    obtain ⟨k, hk, rfl, hck⟩ := hrel
    have HK : Hid (endOf (l.drop k) t = endOf l t) := hck
    clear hck
    by_cases hlt : k < l.length
    · obtain rfl := ha (by omega)
      obtain ⟨c0, c1, c2⟩ := hops k hlt
      obtain ⟨⟨x, a, i⟩, ho⟩ : ∃ o : Op3, l.getD k (0, 0, 0) = o := ⟨_, rfl⟩
      rw [ho] at c0 c1 c2
      have HD : Hid (l.drop k = (x, a, i) :: l.drop (k + 1)) := by
        show l.drop k = (x, a, i) :: l.drop (k + 1)
        rw [← ho]; simp [List.getD, List.getElem?_eq_getElem hlt]
      clear ho hops ha c2
      simp only at c0 c1
      by_cases hx : x = t
      · subst hx
        by_cases h3 : 3 ≤ a
        · go_wp2
          go_ret
          exact ⟨ret_int (by rw [← HK.out, endOf_drop HD.out]; simp [h3]), rfl⟩
        · go_wp2
          go_round
          case rel => exact ⟨k + 1, by omega, by go_num, by rw [← HK.out, endOf_drop HD.out, if_neg (by simp; omega)]⟩
          case measure => simp [intOf]; omega
      · have hx' : (x == t) = false := by simpa using hx
        go_wp2
        go_round
        case rel => exact ⟨k + 1, by omega, by go_num, by rw [← HK.out, endOf_drop HD.out, if_neg (by simp [hx])]⟩
        case measure => simp [intOf]; omega
    · go_wp2
      go_ret
      exact ⟨ret_int (by rw [← HK.out, List.drop_of_length_le (by omega)]; rfl), rfl⟩
end Go.Proofs.Ytccjognnehoodaf
