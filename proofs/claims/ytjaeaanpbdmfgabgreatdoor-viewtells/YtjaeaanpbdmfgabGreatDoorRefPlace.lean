/-
  PROVED HERE: laneref1.place gives the place of the n-th op of a deal. Nothing turns.
  Conditions: none.
-/
import Derived.Test.YtjaeaanpbdmfgabGreatDoorMgbq
import Derived.Test.YtjaeaanpbdmfgabGreatDoorMgak
namespace Go.Proofs.YtjaeaanpbdmfgabGreatDoor
open Go.RowKit

/-- Where, as a number. -/
def placeI (l : List Op3) (t : Int) (n : Nat) : Int := match placeOf l t n with | some k => k | none => -1
theorem placeOf_hit {l r : List Op3} {o : Op3} {t : Int} {k : Nat} (hd : l.drop k = o :: r) (h : o.1 = t) : placeOf (l.drop k) t 0 = some 0 := by
  rw [hd]; simp [placeOf, h]
theorem placeOf_less {l r : List Op3} {o : Op3} {t : Int} {k n : Nat} (hd : l.drop k = o :: r) (h : o.1 = t) (hn : n ≠ 0) : placeOf (l.drop k) t n = (placeOf r t (n - 1)).map (· + 1) := by
  rw [hd]; simp [placeOf, h, hn]
theorem placeOf_pass {l r : List Op3} {o : Op3} {t : Int} {k n : Nat} (hd : l.drop k = o :: r) (h : o.1 ≠ t) : placeOf (l.drop k) t n = (placeOf r t n).map (· + 1) := by
  rw [hd]; simp [placeOf, h]
set_option maxHeartbeats 2000000 in
theorem place_any (l : List Op3) (v : Value) (tx : Int) (n0 : Nat) (w : World) (hI : IsOps w v l) (hl : l.length ≤ 40) (hn : n0 ≤ 40) :
    Calls Tryz.prog 51 #[v, .int .i64 tx, .int .i64 n0] w fun e w' => e = .returned (.int .i64 (placeI l tx n0)) ∧ w' = w := by
  obtain ⟨ad, b, off, cap, rfl, ha, _, hbB, hops⟩ := hI
  have HO : Hid (∀ k, k < l.length → ad = some ⟨b, off, none⟩ ∧ w.cell? ⟨b, off + k * 3, none⟩ = some (.int .i64 (opAt l k).1)) := fun k hk => ⟨ha (by omega), (hops k hk).1⟩
  clear ha hbB hops
  go_enter Tryz.func51, Tryz.ntmps51
  go_wp2
  go_loopw [2, 7] (fun v2 v7 wr => ∃ (k n : Nat), k ≤ l.length ∧ n ≤ 40 ∧ v7 = .int .i64 k ∧ v2 = .int .i64 n ∧ placeOf l tx n0 = (placeOf (l.drop k) tx n).map (· + k) ∧ wr = w) (fun _ v7 _ => l.length - (intOf v7).toNat)
  case atStart => exact ⟨0, n0, Nat.zero_le _, hn, rfl, rfl, by simp, rfl⟩
  case round =>
    obtain ⟨k, n, hk, hn40, rfl, rfl, hp, hwr⟩ := hrel
    subst hwr
    have HP : Hid (placeOf l tx n0 = (placeOf (l.drop k) tx n).map (· + k)) := hp
    clear hp
    by_cases hlt : k < l.length
    · obtain ⟨rfl, c0⟩ := HO.out k hlt
      obtain ⟨⟨t, a, x⟩, ho⟩ : ∃ o : Op3, opAt l k = o := ⟨_, rfl⟩
      rw [ho] at c0
      simp only at c0
      have HD : Hid (l.drop k = (t, a, x) :: l.drop (k + 1)) := by
        show l.drop k = (t, a, x) :: l.drop (k + 1)
        rw [← ho]; simp [opAt, List.getD, List.getElem?_eq_getElem hlt]
      clear ho
      by_cases h1 : t = tx
      · have h1' : (t == tx) = true := by simpa using h1
        by_cases h2 : n = 0
        · have HR : Hid (placeI l tx n0 = k) := by
            show placeI l tx n0 = k
            unfold placeI
            rw [HP.out, h2, placeOf_hit HD.out h1]; simp
          subst h2
          clear h1
          go_wp2
          go_ret
          exact ⟨by rw [HR.out]; rfl, rfl⟩
        · have h2' : (((n : Nat) : Int) == 0) = false := by simpa using h2
          have HN : Hid (placeOf l tx n0 = (placeOf (l.drop (k + 1)) tx (n - 1)).map (· + (k + 1))) := by
            show placeOf l tx n0 = (placeOf (l.drop (k + 1)) tx (n - 1)).map (· + (k + 1))
            rw [HP.out, placeOf_less HD.out h1 h2, Option.map_map]
            congr 1
            funext q
            simp; omega
          have hpos : 1 ≤ n := by omega
          clear h1 h2
          go_wp2
          go_roundw
          case rel => exact ⟨k + 1, n - 1, by omega, by omega, by go_num, by (congr 1; omega), HN.out, trivial⟩
          case measure => simp [intOf]; omega
      · have h1' : (t == tx) = false := by simpa using h1
        have HN : Hid (placeOf l tx n0 = (placeOf (l.drop (k + 1)) tx n).map (· + (k + 1))) := by
          show placeOf l tx n0 = (placeOf (l.drop (k + 1)) tx n).map (· + (k + 1))
          rw [HP.out, placeOf_pass HD.out h1, Option.map_map]
          congr 1
          funext q
          simp; omega
        clear h1
        go_wp2
        go_roundw
        case rel => exact ⟨k + 1, n, by omega, by omega, by go_num, rfl, HN.out, trivial⟩
        case measure => simp [intOf]; omega
    · have HR : Hid (placeI l tx n0 = -1) := by
        show placeI l tx n0 = -1
        unfold placeI
        rw [HP.out, List.drop_of_length_le (by omega)]; rfl
      go_wp2
      go_ret
      exact ⟨by rw [HR.out]; rfl, rfl⟩
end Go.Proofs.YtjaeaanpbdmfgabGreatDoor
