/-
  PROVED HERE: laneref1.End at any place, laneref1.From, laneref1.Open and laneref1.when answer as the plain functions endBy, fromI, openB and whenI say. Old memory stays as it was.
  Conditions: the list is short.
-/
import Derived.Test.YtjcaekhkeobhpahDoorEnd
import Derived.Test.YtjcaekhkeobhpahDoorOps
import Derived.Test.YtjcaekhkeobhpahDoorRegion
import Derived.Test.YtjcaekhkeobhpahDoorFacesPlain
namespace Go.Proofs.YtjcaekhkeobhpahDoor
open Go.RowKit

theorem endBy_pass {h : List Op3} {k i : Nat} {t : Int} (hk : k < i) (hi : i ≤ h.length) (hn : ¬ ((opAt h k).1 = t ∧ 3 ≤ (opAt h k).2.1)) : endOf ((h.take i).drop k) t = endOf ((h.take i).drop (k + 1)) t := by
  have hlt : k < (h.take i).length := by rw [List.length_take]; omega
  rw [List.drop_eq_getElem_cons hlt, endOf_no]
  have e : (h.take i)[k] = opAt h k := by rw [← opAt_get hlt, opAt_take hk]
  rw [e]; exact hn
theorem endBy_hit {h : List Op3} {k i : Nat} {t : Int} (hk : k < i) (hi : i ≤ h.length) (hn : (opAt h k).1 = t ∧ 3 ≤ (opAt h k).2.1) : endOf ((h.take i).drop k) t = (opAt h k).2.1 := by
  have hlt : k < (h.take i).length := by rw [List.length_take]; omega
  have e : (h.take i)[k] = opAt h k := by rw [← opAt_get hlt, opAt_take hk]
  rw [List.drop_eq_getElem_cons hlt, e, endOf_yes hn]
set_option maxHeartbeats 2000000 in
theorem endAt_any (l : List Op3) (v : Value) (t : Int) (i : Nat) (w : World) (hI : IsOps w v l) (hl : l.length ≤ 40) (hi : i ≤ l.length) :
    Calls Tryd.prog 15 #[v, .int .i64 t, .int .i64 i] w fun e w' => e = .returned (.int .i64 (endBy l t i)) ∧ w' = w := by
  obtain ⟨ad, b, off, cap, rfl, ha, -, -, hops⟩ := hI
  have HE : Hid (∀ k, k < l.length → ad = some ⟨b, off, none⟩ ∧ w.cell? ⟨b, off + k * 3, none⟩ = some (.int .i64 (opAt l k).1) ∧ w.cell? ⟨b, off + k * 3 + 1, none⟩ = some (.int .i64 (opAt l k).2.1)) := fun k hk => ⟨ha (by omega), (hops k hk).1, (hops k hk).2.1⟩
  clear ha hops
  go_enter Tryd.func15, Tryd.ntmps15
  go_wp2
  go_loop [7] (fun v7 => ∃ k : Nat, k ≤ i ∧ v7 = .int .i64 k ∧ endOf ((l.take i).drop k) t = endBy l t i) (fun v7 => i - (intOf v7).toNat)
  case atStart => exact ⟨0, Nat.zero_le _, rfl, rfl⟩
  case round =>
    obtain ⟨k, hk, rfl, hck⟩ := hrel
    have HK : Hid (endOf ((l.take i).drop k) t = endBy l t i) := hck
    clear hck
    by_cases hlt : k < i
    · have hlt' : (k : Int) < (i : Int) := by omega
      have hll : (k : Int) < (l.length : Int) := by omega
      obtain ⟨hadr, c0, c1⟩ := HE.out k (by omega)
      subst hadr
      obtain ⟨⟨x, a, q⟩, ho⟩ : ∃ o : Op3, opAt l k = o := ⟨_, rfl⟩
      rw [ho] at c0 c1
      have HO : Hid (opAt l k = (x, a, q)) := ho
      clear ho
      simp only at c0 c1
      by_cases hx : x = t
      · subst hx
        by_cases h3 : 3 ≤ a
        · have HR : Hid (endBy l x i = a) := by show endBy l x i = a; rw [← HK.out, endBy_hit hlt hi (by rw [HO.out]; exact ⟨rfl, h3⟩), HO.out]
          go_wp2
          go_ret
          exact ⟨ret_int HR.out.symm, rfl⟩
        · have HR : Hid (endOf ((l.take i).drop (k + 1)) x = endBy l x i) := by
            show endOf ((l.take i).drop (k + 1)) x = endBy l x i
            rw [← HK.out, endBy_pass hlt hi (by rw [HO.out]; exact fun hh => h3 hh.2)]
          go_wp2
          go_round
          case rel => exact ⟨k + 1, by omega, by go_num, HR.out⟩
          case measure => simp [intOf]; omega
      · have hx' : (x == t) = false := by simpa using hx
        have HR : Hid (endOf ((l.take i).drop (k + 1)) t = endBy l t i) := by
          show endOf ((l.take i).drop (k + 1)) t = endBy l t i
          rw [← HK.out, endBy_pass hlt hi (by rw [HO.out]; exact fun hh => hx hh.1)]
        clear hx
        go_wp2
        go_round
        case rel => exact ⟨k + 1, by omega, by go_num, HR.out⟩
        case measure => simp [intOf]; omega
    · have hlt' : ¬ (k : Int) < (i : Int) := by omega
      have HR : Hid (endBy l t i = 0) := by
        show endBy l t i = 0
        rw [← HK.out, List.drop_of_length_le (by rw [List.length_take]; omega)]; rfl
      go_wp2
      go_ret
      exact ⟨ret_int HR.out.symm, rfl⟩
theorem whenTo_later {h : List Op3} {t : Int} {k : Nat} (hz : whenTo h t k ≠ -1) : ∀ n, whenTo h t (k + n) = whenTo h t k := by
  intro n
  induction n with
  | zero => rfl
  | succ n ih => rw [← Nat.add_assoc, whenTo, ih, if_neg hz]
end Go.Proofs.YtjcaekhkeobhpahDoor
