/-
  PROVED HERE: lanelaw4.SerialAgain returns true at all lists and numbers, and what was there stays as it was.
  Conditions: the variable errors.errorType holds the handle of the type error (the row lists it); the lists are not longer than any that can be read.
-/
import Derived.Test.YtjaeaanpbdmfgabDoorSerIs
import Derived.Test.YtjaeaanpbdmfgabDoorPieces
import Derived.Test.YtjaeaanpbdmfgabDoorSerSerial
import Derived.Test.YtjaeaanpbdmfgabDoorSerOrder
import Derived.Test.YtjaeaanpbdmfgabDoorSame
import Derived.Test.YtjaeaanpbdmfgabDoorSameInts
import Derived.Test.YtjaeaanpbdmfgabDoorTold
namespace Go.Proofs.YtjaeaanpbdmfgabDoor
open Go.RowKit

theorem again_is {a b : Int} (ha : 1 ≤ a ∧ a ≤ 6) (hb : 1 ≤ b ∧ b ≤ 6) {ps : List Int} (hd : Deals1 ps) (u : Value) (W : World) (h : IsOps W u (piecesL a b ps)) :
    Calls Tryd.prog 19 #[u] W fun e w' => e = .returned (.tuple #[.bool true, .nilIface]) ∧ Below W.heap.size W w' := by
  refine (is_ok _ u W h (pieces_chk ha hb hd)).mono fun e w' ⟨he, hbe⟩ => ⟨?_, hbe⟩
  rw [he, pieces_done hd, pieces_ser]
theorem again_ser {a b : Int} (ha : 1 ≤ a ∧ a ≤ 6) (hb : 1 ≤ b ∧ b ≤ 6) {ps qs : List Int} (hd : Deals1 ps) (hs : sortI qs = dealsL (piecesL a b ps)) (u x : Value) (W : World) (h : IsOps W u (piecesL a b ps)) (hx : IsInts W x qs) :
    Calls Tryd.prog 20 #[u, x] W fun e w' => ∃ v', e = .returned (.tuple #[v', .nilIface]) ∧ IsOps w' v' (piecesL a b qs) ∧ Below W.heap.size W w' := by
  refine (ser_ok _ qs u x W h hx (pieces_chk ha hb hd) (by rw [pieces_done hd]; exact hs)).mono fun e w' ⟨v', he, hI, hbe⟩ => ⟨v', he, ?_, hbe⟩
  rw [pieces_done hd, pieces_along hd.once qs fun y hy => (pieces_deals hd y).2 ((sort_perm hs).mem_iff.1 hy)] at hI
  exact hI
theorem again_shape {a b : Int} (ha : 1 ≤ a ∧ a ≤ 6) (hb : 1 ≤ b ∧ b ≤ 6) {ps qs : List Int} (hd : Deals1 ps) (hs : (sortI qs == dealsL (piecesL a b ps)) = false) (u x : Value) (W : World) (h : IsOps W u (piecesL a b ps)) (hx : IsInts W x qs) :
    Calls Tryd.prog 20 #[u, x] W fun e w' => e = .returned (.tuple #[.slice none 0 0, .iface 54 (.int .i64 3)]) ∧ Below W.heap.size W w' :=
  ser_shape _ qs u x W h hx (pieces_chk ha hb hd) (by rw [pieces_done hd]; exact hs)
theorem again_ord {a b : Int} (ha : 1 ≤ a ∧ a ≤ 6) (hb : 1 ≤ b ∧ b ≤ 6) {ps : List Int} (hd : Deals1 ps) (u : Value) (W : World) (h : IsOps W u (piecesL a b ps)) :
    Calls Tryd.prog 22 #[u] W fun e w' => ∃ v', e = .returned (.tuple #[v', .nilIface]) ∧ IsInts w' v' ps ∧ Below W.heap.size W w' := by
  have hq : serOrd (doneL (piecesL a b ps)) = some ps := by
    rw [pieces_done hd]
    unfold serOrd
    rw [← sortD_weave (edges_right _ _) (dealsL_rise _) (fun x hx => ⟨(mem_deals.1 hx).1, (mem_deals.1 hx).2.1⟩) fun x hx => ?_]
    · exact pieces_order hd
    · obtain ⟨e, he, h2⟩ := (namedI_mem _ x).1 hx
      obtain ⟨p, q, hpq, hql, rfl⟩ := (pieces_edges hd e).1 he
      refine (pieces_deals hd x).1 ?_
      have hg : ∀ k, k < ps.length → ps.getD k 0 ∈ ps := fun k hk => by simp [List.getD, List.getElem?_eq_getElem hk]
      rcases h2 with rfl | rfl
      · exact hg p (by omega)
      · exact hg q hql
  refine (ord_any _ u W h (pieces_chk ha hb hd)).mono ?_
  rintro e w' ⟨⟨o, v', ho, he, hI⟩ | ⟨ho, _⟩, hbe⟩
  · rw [hq] at ho
    cases ho
    exact ⟨v', he, hI, hbe⟩
  · rw [hq] at ho
    cases ho

set_option maxHeartbeats 4000000 in
set_option maxRecDepth 100000 in
theorem again_out (v u : Value) (a b : Int) (w : World) (h : a < 1 ∨ 6 < a ∨ b < 1 ∨ 6 < b) :
    Calls Tryd.prog 5 #[v, u, .int .i64 a, .int .i64 b] w fun e w' => e = .returned (.bool true) ∧ Below w.heap.size w w' := by
  go_enter Tryd.func5, Tryd.ntmps5
  by_cases h1 : a < 1
  · clear h
    go_wp2_with fail
    go_ret
    exact ⟨rfl, Below.refl _ _⟩
  · by_cases h2 : 6 < a
    · clear h
      go_wp2_with fail
      go_ret
      exact ⟨rfl, Below.refl _ _⟩
    · by_cases h3 : b < 1
      · clear h
        go_wp2_with fail
        go_ret
        exact ⟨rfl, Below.refl _ _⟩
      · have h4 : 6 < b := by omega
        clear h
        go_wp2_with fail
        go_ret
        exact ⟨rfl, Below.refl _ _⟩

set_option maxHeartbeats 8000000 in
set_option maxRecDepth 100000 in
theorem again_in (l m : List Int) (v u : Value) (a b : Int) (w : World) (hv : IsInts w v l) (hu : IsInts w u m) (hl : l.length ≤ 140737488355328) (ha : 1 ≤ a ∧ a ≤ 6) (hb : 1 ≤ b ∧ b ≤ 6) (hg : EtAt w) :
    Calls Tryd.prog 5 #[v, u, .int .i64 a, .int .i64 b] w fun e w' => e = .returned (.bool true) ∧ Below w.heap.size w w' := by
  have HV : Hid (IsInts w v l) := hv
  have HU : Hid (∀ W, Below w.heap.size w W → IsInts W u m ∧ EtAt W) := fun W hW => ⟨hu.below hW (Nat.le_refl _), hg.below hW hg.lt⟩
  have HST : Hid (∀ W W', Below w.heap.size w W → Below W.heap.size W W' → Below w.heap.size w W') := fun W W' h1 h2 => h1.trans (h2.mono h1.size)
  have HL : Hid (l.length ≤ 140737488355328) := hl
  have HA : Hid (1 ≤ a ∧ a ≤ 6) := ha
  have HB : Hid (1 ≤ b ∧ b ≤ 6) := hb
  obtain ⟨a1, a6⟩ := ha
  obtain ⟨b1, b6⟩ := hb
  clear hv hu hg hl
  go_enter Tryd.func5, Tryd.ntmps5
  go_wp2_with fail
  refine (pieces_any l _ a b _ HV.out HL.out).mono ?_
  rintro e w1 ⟨ps, hds, v1, v2, rfl, hI1, hI2, hb1⟩
  have HDS : Hid (Deals1 ps) := hds
  have HI1 : Hid (∀ W, Below w1.heap.size w1 W → IsOps W v1 (piecesL a b ps) ∧ IsInts W v2 ps) := fun W hW => ⟨hI1.below hW (Nat.le_refl _), hI2.below hW (Nat.le_refl _)⟩
  have HST1 : Hid (∀ W W', Below w1.heap.size w1 W → Below W.heap.size W W' → Below w1.heap.size w1 W') := fun W W' h1 h2 => h1.trans (h2.mono h1.size)
  have HB1 : Hid (Below w.heap.size w w1) := hb1
  have HPL : Hid (ps.length ≤ 6) := hds.len
  clear hds hI1 hI2 hb1
  go_wp2_with fail
  refine (again_is HA.out HB.out HDS.out _ _ (HI1.out _ (Below.refl _ _)).1).mono ?_
  rintro e w2 ⟨rfl, hb2⟩
  go_wp2_with fail
  refine (again_ser HA.out HB.out HDS.out (pieces_sort HDS.out) _ _ _ (HI1.out _ hb2).1 (HI1.out _ hb2).2).mono ?_
  rintro e w3 ⟨v3, rfl, hI3, hq3⟩
  have hb3 := HST1.out _ _ hb2 hq3
  have HI3 : Hid (IsOps w3 v3 (piecesL a b ps)) := hI3
  clear hI3 hq3 hb2
  go_wp2_with fail
  refine (same_ops (piecesL a b ps) _ _ _ HI3.out (HI1.out _ hb3).1 (by rw [pieces_len]; have := HPL.out; omega)).mono ?_
  rintro e w4 ⟨rfl, hq4⟩
  have hb4 := HST1.out _ _ hb3 hq4
  clear hq4 hb3
  cases hs : (sortI m == dealsL (piecesL a b ps)) with
  | false =>
    have HS : Hid ((sortI m == dealsL (piecesL a b ps)) = false) := hs
    clear hs
    go_wp2_with fail
    refine (again_shape HA.out HB.out HDS.out HS.out _ _ _ (HI1.out _ hb4).1 (HU.out _ (HST.out _ _ HB1.out hb4)).1).mono ?_
    rintro e w5 ⟨rfl, hq5⟩
    have hb5 := HST1.out _ _ hb4 hq5
    go_wp2_with fail
    refine (error_hit 3 3 _ (HU.out _ (HST.out _ _ HB1.out hb5)).2).mono ?_
    rintro e w6 ⟨rfl, hq6⟩
    have hb6 := HST1.out _ _ hb5 hq6
    go_wp2_with fail
    go_ret
    exact ⟨rfl, HST.out _ _ HB1.out hb6⟩
  | true =>
    have HS : Hid (sortI m = dealsL (piecesL a b ps)) := by show sortI m = dealsL (piecesL a b ps); simpa using hs
    clear hs
    go_wp2_with fail
    refine (again_ser HA.out HB.out HDS.out HS.out _ _ _ (HI1.out _ hb4).1 (HU.out _ (HST.out _ _ HB1.out hb4)).1).mono ?_
    rintro e w5 ⟨v5, rfl, hI5, hq5⟩
    have hb5 := HST1.out _ _ hb4 hq5
    have HI5 : Hid (IsOps w5 v5 (piecesL a b m)) := hI5
    have HDM : Hid (Deals1 m) := pieces_other HS.out
    clear hI5 hq5 hb4
    go_wp2_with fail
    refine (again_is HA.out HB.out HDM.out _ _ HI5.out).mono ?_
    rintro e w6 ⟨rfl, hq6⟩
    have hb6 := HST1.out _ _ hb5 hq6
    clear hq6 hb5
    go_wp2_with fail
    refine (again_ord HA.out HB.out HDS.out _ _ (HI1.out _ hb6).1).mono ?_
    rintro e w7 ⟨v7, rfl, hI7, hq7⟩
    have hb7 := HST1.out _ _ hb6 hq7
    have HI7 : Hid (IsInts w7 v7 ps) := hI7
    clear hI7 hq7 hb6
    cases hab : (a != b) with
    | true =>
      go_wp2_with fail
      go_ret
      exact ⟨rfl, HST.out _ _ HB1.out hb7⟩
    | false =>
      go_wp2_with fail
      refine (same_ints ps _ _ _ HI7.out (HI1.out _ hb7).2 (by have := HPL.out; omega)).mono ?_
      rintro e w8 ⟨rfl, hq8⟩
      have hb8 := HST1.out _ _ hb7 hq8
      go_wp2_with fail
      go_ret
      exact ⟨rfl, HST.out _ _ HB1.out hb8⟩

theorem again_any (l m : List Int) (v u : Value) (a b : Int) (w : World) (hv : IsInts w v l) (hu : IsInts w u m) (hl : l.length ≤ 140737488355328) (hg : EtAt w) :
    Calls Tryd.prog 5 #[v, u, .int .i64 a, .int .i64 b] w fun e w' => e = .returned (.bool true) ∧ Below w.heap.size w w' := by
  by_cases h : a < 1 ∨ 6 < a ∨ b < 1 ∨ 6 < b
  · exact again_out v u a b w h
  · exact again_in l m v u a b w hv hu hl (by omega) (by omega) hg
end Go.Proofs.YtjaeaanpbdmfgabDoor
