/-
  PROVED HERE: laneref2.Pivots tells, rising, the deals from which and to which an edge leads. Old memory stays as it was.
  Conditions: none.
-/
import Derived.Test.YtccjognnehoodafDoorMgaf
import Derived.Test.YtccjognnehoodafDoorMgal
import Derived.Maps.AppendAt
namespace Go.Proofs.YtccjognnehoodafDoor
open Go.RowKit

/-- Do edges lead to it, and from it? -/
def pivAt (l : List Edge2) (d : Int) : Bool := (l.any fun e => e.2 == d) && (l.any fun e => e.1 == d)
/-- Those of the first n deals that are between. -/
def pivTo (l : List Edge2) (n : Nat) : List Int := ((List.range n).map fun (k : Nat) => (k : Int) + 1).filter (pivAt l)
theorem pivTo_succ (l : List Edge2) (n : Nat) : pivTo l (n + 1) = pivTo l n ++ (if pivAt l ((n : Int) + 1) = true then [(n : Int) + 1] else []) := by
  unfold pivTo
  rw [List.range_succ, List.map_append, List.filter_append]
  by_cases h : pivAt l ((n : Int) + 1) = true <;> simp [h]
theorem pivTo_len (l : List Edge2) (n : Nat) : (pivTo l n).length ≤ n := by
  unfold pivTo
  refine Nat.le_trans (List.length_filter_le ..) ?_
  simp
theorem any_step {l : List Edge2} {k : Nat} (hk : k < l.length) (f : Edge2 → Bool) : (l.take (k + 1)).any f = ((l.take k).any f || f (l.getD k (0, 0))) := by
  rw [List.take_succ_eq_append_getElem hk]
  have : l[k] = l.getD k (0, 0) := by simp [List.getD, List.getElem?_eq_getElem hk]
  simp [this]
set_option maxHeartbeats 8000000 in
theorem pivots_any (l : List Edge2) (v : Value) (w : World) (hI : IsEdges w v l) (hl : l.length ≤ 4000) :
    Calls Tryd.prog 24 #[v] w fun e w' => ∃ v', e = .returned v' ∧ w'.ownsRow w.heap.size 3 1 v' (pivTo l 6).length ((pivTo l 6).map (Value.int .i64)) ∧ Below w.heap.size w w' := by
  obtain ⟨ad, b, off, cap, rfl, ha, -, hbB, hc⟩ := hI
  have HE : Hid (∀ W, Below w.heap.size w W → ∀ k, k < l.length → ad = some ⟨b, off, none⟩ ∧ W.cell? ⟨b, off + k * 2, none⟩ = some (.int .i64 (l.getD k (0, 0)).1) ∧ W.cell? ⟨b, off + k * 2 + 1, none⟩ = some (.int .i64 (l.getD k (0, 0)).2)) := fun W hW k hk => by
    refine ⟨ha (by omega), ?_⟩
    exact (hc.below hW hbB) k hk
  obtain ⟨i0, hi, hz0, hs0, hy0⟩ := info_parts infoInt
  have HI : Hid (Tryd.prog.info? 3 = some i0 ∧ i0.zero = some (.int .i64 0) ∧ i0.size = 1 ∧ i0.bytes = 8) := ⟨hi, hz0, hs0, hy0⟩
  clear hi hz0 hs0 hy0 ha hbB hc
  go_enter Tryd.func24, Tryd.ntmps24
  go_wp2_with fail
  go_loopw [3, 4, 5, 6, 7] (fun v3 v4 _ _ _ wr => ∃ n : Nat, n ≤ 6 ∧ v4 = .int .i64 ((n : Int) + 1) ∧ wr.ownsRow w.heap.size 3 1 v3 (pivTo l n).length ((pivTo l n).map (Value.int .i64)) ∧ Below w.heap.size w wr) (fun _ v4 _ _ _ _ => 7 - (intOf v4).toNat)
  case atStart => exact ⟨0, Nat.zero_le _, rfl, World.ownsRow_nil _ _ _ _, Below.refl _ _⟩
  case round =>
    obtain ⟨n, hn, rfl, hown, hbel⟩ := hrel
    obtain ⟨W2, hw2⟩ : ∃ W2, W2 = wr := ⟨_, rfl⟩
    subst hw2
    have HOWN : Hid (W2.ownsRow w.heap.size 3 1 u3 (pivTo l n).length ((pivTo l n).map (Value.int .i64))) := hown
    have HBEL : Hid (Below w.heap.size w W2) := hbel
    have hsz := hbel.size
    clear hown
    by_cases hlt : n < 6
    · have hlt' : (n : Int) + 1 ≤ 6 := by omega
      have HC := HE.out W2 hbel
      have HC' : Hid (∀ k, k < l.length → ad = some ⟨b, off, none⟩ ∧ W2.cell? ⟨b, off + k * 2, none⟩ = some (.int .i64 (l.getD k (0, 0)).1) ∧ W2.cell? ⟨b, off + k * 2 + 1, none⟩ = some (.int .i64 (l.getD k (0, 0)).2)) := HC
      clear HC hbel
      go_wp2_with fail
      go_loopw [5, 6, 7] (fun v5 v6 v7 wi => ∃ k : Nat, k ≤ l.length ∧ v7 = .int .i64 k ∧ v5 = .bool ((l.take k).any fun e => e.2 == (n : Int) + 1) ∧ v6 = .bool ((l.take k).any fun e => e.1 == (n : Int) + 1) ∧ wi = W2) (fun _ _ v7 _ => l.length - (intOf v7).toNat)
      case atStart => exact ⟨0, Nat.zero_le _, rfl, rfl, rfl, rfl⟩
      case round =>
        obtain ⟨k, hk, rfl, rfl, rfl, hwi⟩ := hrel
        rw [hwi]
        clear hwi
        by_cases hkl : k < l.length
        · obtain ⟨rfl, c0, c1⟩ := HC'.out k hkl
          have HS2 : Hid (((l.take (k + 1)).any fun e => e.2 == (n : Int) + 1) = (((l.take k).any fun e => e.2 == (n : Int) + 1) || (l.getD k (0, 0)).2 == (n : Int) + 1)) := any_step hkl _
          have HS1 : Hid (((l.take (k + 1)).any fun e => e.1 == (n : Int) + 1) = (((l.take k).any fun e => e.1 == (n : Int) + 1) || (l.getD k (0, 0)).1 == (n : Int) + 1)) := any_step hkl _
          generalize ((l.take k).any fun e => e.2 == (n : Int) + 1) = x2 at HS2
          generalize ((l.take k).any fun e => e.1 == (n : Int) + 1) = x1 at HS1
          generalize (l.getD k (0, 0)).1 = f at c0 HS1
          generalize (l.getD k (0, 0)).2 = g at c1 HS2
          cases x2
          all_goals cases x1
          all_goals
            go_wp2_with fail
            go_roundw
            case rel => exact ⟨k + 1, by omega, by go_num, by rw [HS2.out]; simp, by rw [HS1.out]; simp, trivial⟩
            case measure => simp [intOf]; omega
        · have hk' : k = l.length := by omega
          subst hk'
          rw [List.take_length]
          have HP : Hid (pivTo l (n + 1) = pivTo l n ++ (if ((l.any fun e => e.2 == (n : Int) + 1) && (l.any fun e => e.1 == (n : Int) + 1)) = true then [(n : Int) + 1] else [])) := pivTo_succ l n
          have hpl := pivTo_len l n
          generalize (l.any fun e => e.2 == (n : Int) + 1) = x2 at HP
          generalize (l.any fun e => e.1 == (n : Int) + 1) = x1 at HP
          cases x2
          · have HQ : Hid (pivTo l (n + 1) = pivTo l n) := by show _ = _; rw [HP.out]; simp
            go_wp2_with fail
            go_roundw
            case rel => exact ⟨n + 1, by omega, by go_num, by rw [HQ.out]; exact HOWN.out, HBEL.out⟩
            case measure => simp [intOf]; omega
          · cases x1
            · have HQ : Hid (pivTo l (n + 1) = pivTo l n) := by show _ = _; rw [HP.out]; simp
              go_wp2_with fail
              go_roundw
              case rel => exact ⟨n + 1, by omega, by go_num, by rw [HQ.out]; exact HOWN.out, HBEL.out⟩
              case measure => simp [intOf]; omega
            · have HQ : Hid (pivTo l (n + 1) = pivTo l n ++ [(n : Int) + 1]) := by show _ = _; rw [HP.out]; simp
              go_wp2_with (
                at_builtin
                refine wpList_append_own _ rfl (.tmp 42) (.tmp 44) 23 rfl w.heap.size 3 i0 (.int .i64 0) 1 8 Tryd.underlying23 HI.out.1 HI.out.2.1 HI.out.2.2.1 HI.out.2.2.2 rfl (by decide) u3 (pivTo l n).length ((pivTo l n).map (Value.int .i64)) rfl (HOWN.out.alloc _) ⟨W2.heap.size, 0, none⟩ 1 1 [.int .i64 ((n : Int) + 1)] rfl rfl (cell_one_new _ _ _) (by simp [Value.oneCell']) (by unfold maxLen; omega) (by omega) (by simp; omega) ?_
                intro v1 w1 hown1 hgr1 hnil1)
              have hB1 := (HBEL.out.alloc hsz _).grown hgr1 (by simp; omega) (fun m hm => (HOWN.out.lt m hm).1)
              go_roundw
              case rel => exact ⟨n + 1, by omega, by go_num, by rw [HQ.out]; simpa using hown1, hB1⟩
              case measure => simp [intOf]; omega
    · have hn' : n = 6 := by omega
      subst hn'
      go_wp2_with fail
      go_ret
      exact ⟨_, rfl, HOWN.out, hbel⟩
end Go.Proofs.YtccjognnehoodafDoor
