/-
  PROVED HERE: laneref1.End answers as the plain function endOf says of the first ops of a list; nothing turns.
  Conditions: none.
-/
import Derived.Test.YtjcaekhkeobhpahDoorCheck
namespace Go.Proofs.YtjcaekhkeobhpahDoor
open Go.RowKit

theorem ret_int {x y : Int} (h : x = y) : Ending.returned (.int .i64 x) = .returned (.int .i64 y) := by rw [h]
/-- The tail of a search: what is left behind k ops of which none is it. -/
theorem endOf_drop {l : List Op3} {k : Nat} {o : Op3} (hd : l.drop k = o :: l.drop (k + 1)) (t : Int) : endOf (l.drop k) t = if o.1 = t ∧ 3 ≤ o.2.1 then o.2.1 else endOf (l.drop (k + 1)) t := by
  rw [hd]; rfl

set_option maxHeartbeats 2000000 in
theorem end_any (l : List Op3) (ad : Option Addr) (b off cap : Nat) (t : Int) (w : World) (hlen : l.length ≤ 140737488351232) (ha : 0 < l.length → ad = some ⟨b, off, none⟩) (hops : OpsAt w b off l) :
    Calls Tryd.prog 15 #[.slice ad l.length cap, .int .i64 t, .int .i64 l.length] w fun e w' => e = .returned (.int .i64 (endOf l t)) ∧ w' = w := by
  go_enter Tryd.func15, Tryd.ntmps15
  go_wp2
  go_loop [7] (fun v7 => ∃ k : Nat, k ≤ l.length ∧ v7 = .int .i64 k ∧ endOf (l.drop k) t = endOf l t) (fun v7 => l.length - (intOf v7).toNat)
  case atStart => exact ⟨0, Nat.zero_le _, rfl, rfl⟩
  case round =>
    obtain ⟨k, hk, rfl, hck⟩ := hrel
    have HK : Hid (endOf (l.drop k) t = endOf l t) := hck
    clear hck
    by_cases hlt : k < l.length
    · obtain rfl := ha (by omega)
      obtain ⟨c0, c1, c2⟩ := hops k hlt
      obtain ⟨⟨x, a, i⟩, ho⟩ : ∃ o : Op3, l.getD k (0, 0, 0) = o := ⟨_, rfl⟩
      rw [ho] at c0 c1 c2
      have HD : Hid (l.drop k = (x, a, i) :: l.drop (k + 1)) := by
        show l.drop k = (x, a, i) :: l.drop (k + 1)
        rw [← ho]; simp [List.getD, List.getElem?_eq_getElem hlt]
      clear ho hops ha c2
      simp only at c0 c1
      by_cases hx : x = t
      · subst hx
        by_cases h3 : 3 ≤ a
        · go_wp2
          go_ret
          exact ⟨ret_int (by rw [← HK.out, endOf_drop HD.out]; simp [h3]), rfl⟩
        · go_wp2
          go_round
          case rel => exact ⟨k + 1, by omega, by go_num, by rw [← HK.out, endOf_drop HD.out, if_neg (by simp; omega)]⟩
          case measure => simp [intOf]; omega
      · have hx' : (x == t) = false := by simpa using hx
        go_wp2
        go_round
        case rel => exact ⟨k + 1, by omega, by go_num, by rw [← HK.out, endOf_drop HD.out, if_neg (by simp [hx])]⟩
        case measure => simp [intOf]; omega
    · go_wp2
      go_ret
      exact ⟨ret_int (by rw [← HK.out, List.drop_of_length_le (by omega)]; rfl), rfl⟩
end Go.Proofs.YtjcaekhkeobhpahDoor
