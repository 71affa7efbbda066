/-
  PROVED HERE: what serial.Serial, serial.Order and laneref1.Order answer at a right list, each said in one sentence: the answer, and the error or none; lanesame.Error says yes of an error and its number.
  Conditions: the variable errors.errorType holds the handle of the type error.
  PROVED HERE: lanesame.Ops says yes of two slices that hold the same list of ops; nothing turns but the count of draws.
  Conditions: none.
-/
import Derived.Test.YtjaeaanpbdmfgabGreatDoorSerSerial
import Derived.Test.YtjaeaanpbdmfgabGreatDoorMgbm
import Derived.Test.YtjaeaanpbdmfgabGreatDoorRefDealsL
import Derived.Test.YtjaeaanpbdmfgabGreatDoorRefSortD
import Derived.Test.YtjaeaanpbdmfgabGreatDoorRefEdges
import Derived.Test.YtjaeaanpbdmfgabGreatDoorTold
import Derived.Test.YtjaeaanpbdmfgabGreatDoorOps
import Derived.Deep.QuietTactic
import Derived.BigQuiet
import Derived.WalkSmall
namespace Go.Proofs.YtjaeaanpbdmfgabGreatDoor
open Go.RowKit

def shapeE (d : List Op3) (o : List Int) : Int := if (sortI o == dealsL d) = true then 0 else 3
def wantL (d : List Op3) (o : List Int) : List Op3 := if (sortI o == dealsL d) = true then alongL d o else []
def ordL (d : List Op3) : List Int := (serOrd d).getD []
def cycE (d : List Op3) : Int := if (serOrd d).isSome = true then 0 else 8
theorem err_u (n : Int) (w : World) (hg : EtAt w) : Calls Tryz.prog 12 #[errV n, .int .i64 n] w fun e w' => e = .returned (.bool true) ∧ Below w.heap.size w w' := by
  by_cases h : n = 0
  · subst h
    exact (error_nil 0 w).mono fun _ _ ⟨he, hw⟩ => ⟨he, by rw [hw]; exact Below.refl _ _⟩
  · rw [errV_ne h]
    exact (error_hit n n w hg).mono fun _ _ ⟨he, hb⟩ => ⟨by rw [he]; simp, hb⟩
theorem ser_u (l : List Op3) (o : List Int) (v u : Value) (w : World) (h : IsOps w v l) (hu : IsInts w u o) (hc : (chk l).2 = 0) :
    Calls Tryz.prog 11 #[v, u] w fun e w' => ∃ v', e = .returned (.tuple #[v', errV (shapeE (doneL l) o)]) ∧ IsOps w' v' (wantL (doneL l) o) ∧ Below w.heap.size w w' := by
  unfold shapeE wantL
  cases hs : (sortI o == dealsL (doneL l)) with
  | false =>
    refine (ser_shape l o v u w h hu hc hs).mono fun e w' ⟨he, hb⟩ => ⟨_, ?_, isOps_nil _, hb⟩
    rw [he, if_neg (by simp), errV_ne (by decide)]
  | true =>
    refine (ser_ok l o v u w h hu hc (by simpa using hs)).mono fun e w' ⟨v', he, hI, hb⟩ => ⟨v', ?_, ?_, hb⟩
    · rw [he, if_pos rfl, errV_zero]
    · rw [if_pos rfl]; exact hI
theorem ord_u (l : List Op3) (v : Value) (w : World) (h : IsOps w v l) (hc : (chk l).2 = 0) :
    Calls Tryz.prog 15 #[v] w fun e w' => ∃ v', e = .returned (.tuple #[v', errV (cycE (doneL l))]) ∧ IsInts w' v' (ordL (doneL l)) ∧ Below w.heap.size w w' := by
  refine (ord_any l v w h hc).mono ?_
  rintro e w' ⟨⟨o, v', ho, he, hI⟩ | ⟨ho, he⟩, hb⟩
  · refine ⟨v', ?_, ?_, hb⟩
    · unfold cycE; rw [ho, he]; rfl
    · unfold ordL; rw [ho]; exact hI
  · refine ⟨.slice none 0 0, ?_, ?_, hb⟩
    · unfold cycE; rw [ho, he, if_neg (by simp), errV_ne (by decide)]
    · unfold ordL; rw [ho]; exact isInts_nil _
theorem rdeals_u {d : List Op3} (hd : ∀ o ∈ d, 1 ≤ o.1 ∧ o.1 ≤ 6) (hl : d.length ≤ 40) (v : Value) (w : World) (h : IsOps w v d) :
    Calls Tryz.prog 6 #[v] w fun e w' => ∃ v', e = .returned v' ∧ IsInts w' v' (dealsL d) ∧ Below w.heap.size w w' := by
  refine (refDeals_any d v w h hl).mono fun e w' ⟨v', he, hI, hb⟩ => ⟨v', he, ?_, hb⟩
  rw [← puts_deals hd]; exact hI
set_option maxHeartbeats 2000000 in
theorem refOrd_u (l : List Op3) (v : Value) (w : World) (h : IsOps w v l) (hc : (chk l).2 = 0) :
    Calls Tryz.prog 14 #[v] w fun e w' => ∃ v', e = .returned (.tuple #[v', .bool (serOrd (doneL l)).isSome]) ∧ IsInts w' v' (ordL (doneL l)) ∧ Below w.heap.size w w' := by
  have hdo := doing_done hc
  have hl40 := chk_len (chk_done hc)
  have hdone : Calls Tryz.prog 7 #[v] w fun e w' => ∃ v', e = .returned v' ∧ IsOps w' v' (doneL l) ∧ Below w.heap.size w w' := refDone_any l v w h hc
  have hed : ∀ W, Below w.heap.size w W → Calls Tryz.prog 34 #[v] W fun e w' => ∃ v', e = .returned v' ∧ IsEdges w' v' (edgesTo (doneL l) 36) ∧ Below W.heap.size W w' := fun W hW => by
    rw [edges_same _ hdo.deal]
    exact refEdges_any l v W (h.below hW (Nat.le_refl _)) hc
  obtain ⟨d, hd⟩ : ∃ d, doneL l = d := ⟨_, rfl⟩
  rw [hd] at hdone hed hdo hl40 ⊢
  have HD : Hid (Calls Tryz.prog 7 #[v] w fun e w' => ∃ v', e = .returned v' ∧ IsOps w' v' d ∧ Below w.heap.size w w') := hdone
  have HE : Hid (∀ W, Below w.heap.size w W → Calls Tryz.prog 34 #[v] W fun e w' => ∃ v', e = .returned v' ∧ IsEdges w' v' (edgesTo d 36) ∧ Below W.heap.size W w') := hed
  have HDO : Hid (Doing d) := hdo
  clear hd hdone hed hdo h hc
  go_enter Tryz.func14, Tryz.ntmps14
  go_wp2_with fail
  refine HD.out.mono ?_
  rintro e w1 ⟨v1, rfl, hI1, hb1⟩
  have HI1 : Hid (IsOps w1 v1 d) := hI1
  clear hI1
  go_wp2_with fail
  refine (rdeals_u HDO.out.deal hl40 _ _ HI1.out).mono ?_
  rintro e w2 ⟨v2, rfl, hI2, hb2⟩
  have HI2 : Hid (IsInts w2 v2 (dealsL d)) := hI2
  have hb02 := hb1.trans (hb2.mono hb1.size)
  clear hI2
  go_wp2_with fail
  refine (HE.out _ hb02).mono ?_
  rintro e w3 ⟨v3, rfl, hE3, hb3⟩
  have HE3 : Hid (IsEdges w3 v3 (edgesTo d 36)) := hE3
  have HI3 : Hid (IsInts w3 v2 (dealsL d)) := HI2.out.below hb3 (Nat.le_refl _)
  have hb03 := hb02.trans (hb3.mono hb02.size)
  clear hE3
  go_wp2_with fail
  refine (sortd_any (dealsL d) (edgesTo d 36) _ _ _ HI3.out HE3.out (edges_gchk d 36) (dealsL_rise d) (fun x hx => ⟨(mem_deals.1 hx).1, (mem_deals.1 hx).2.1⟩) fun e he => (edges_deals HDO.out.deal he).1).mono ?_
  rintro e w4 ⟨hor, hb4⟩
  have hb04 := hb03.trans (hb4.mono hb03.size)
  rcases hor with ⟨o, v4, ho, rfl, hI4, _⟩ | ⟨ho, rfl⟩
  · rw [serOrd_sort HDO.out.deal] at ho
    have HO : Hid (serOrd d = some o) := ho
    have HI4 : Hid (IsInts w4 v4 o) := hI4
    clear ho hI4
    go_wp2_with fail
    go_ret2
    exact ⟨_, by rw [HO.out]; rfl, by unfold ordL; rw [HO.out]; exact HI4.out, hb04⟩
  · rw [serOrd_sort HDO.out.deal] at ho
    have HO : Hid (serOrd d = none) := ho
    clear ho
    go_wp2_with fail
    go_ret2
    exact ⟨_, by rw [HO.out]; rfl, by unfold ordL; rw [HO.out]; exact isInts_nil _, hb04⟩
end Go.Proofs.YtjaeaanpbdmfgabGreatDoor

namespace Go.Proofs.YtjaeaanpbdmfgabGreatDoor
open Go.RowKit

set_option maxHeartbeats 4000000 in
theorem same_ops (l : List Op3) (v u : Value) (w : World) (hv : IsOps w v l) (hu : IsOps w u l) (hlen : l.length ≤ 140737488351) :
    Calls Tryz.prog 13 #[v, u] w fun e w' => e = .returned (.bool true) ∧ Below w.heap.size w w' := by
  obtain ⟨ad, b, off, cap, rfl, ha, _, hbB, hops⟩ := hv
  obtain ⟨ad2, b2, off2, cap2, rfl, ha2, _, hbB2, hops2⟩ := hu
  go_enter Tryz.func13, Tryz.ntmps13
  go_wp2
  go_loopw [5] (fun v5 wr => ∃ k : Nat, k ≤ l.length ∧ v5 = .int .i64 k ∧ Below w.heap.size w wr) (fun v5 _ => l.length - (intOf v5).toNat)
  case atStart => exact ⟨0, Nat.zero_le _, rfl, Below.refl _ _⟩
  case round =>
    obtain ⟨k, hk, rfl, hbel⟩ := hrel
    by_cases hlt : k < l.length
    · obtain rfl := ha (by omega)
      obtain rfl := ha2 (by omega)
      obtain ⟨c0, c1, c2⟩ := (hops.below hbel hbB) k hlt
      obtain ⟨d0, d1, d2⟩ := (hops2.below hbel hbB2) k hlt
      obtain ⟨⟨t, a, i⟩, ho⟩ : ∃ o : Op3, l.getD k (0, 0, 0) = o := ⟨_, rfl⟩
      rw [ho] at c0 c1 c2 d0 d1 d2
      simp only at c0 c1 c2 d0 d1 d2
      clear ho hops hops2 ha ha2 hbB hbB2
      go_wp2
      go_quiet (fail)
      go_wp2
      go_roundw
      case rel => exact ⟨k + 1, by omega, by go_num, below_drewN hbel _⟩
      case measure => simp [intOf]; omega
    · go_wp2
      go_ret
      exact ⟨rfl, hbel⟩
end Go.Proofs.YtjaeaanpbdmfgabGreatDoor
