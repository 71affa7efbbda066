/-
  PROVED HERE: what serial.Serial, serial.Order and laneref1.Order answer at a right list, each said in one sentence: the answer, and the error or none; lanesame.Error says yes of an error and its number.
  Conditions: the variable errors.errorType holds the handle of the type error.
  (Of these, what the claim wants: the rest was left out.)
-/
import Derived.Test.YtmjjiehnjghndaaDoorMgav
import Derived.Test.YtmjjiehnjghndaaDoorMgaw
import Derived.Test.YtmjjiehnjghndaaDoorSerOrder
import Derived.Test.YtmjjiehnjghndaaDoorRefDealsL
import Derived.Test.YtmjjiehnjghndaaDoorRefSortD
import Derived.Test.YtmjjiehnjghndaaDoorRefEdges
import Derived.Test.YtmjjiehnjghndaaDoorMgau
namespace Go.Proofs.YtmjjiehnjghndaaDoor
open Go.RowKit

def ordL (d : List Op3) : List Int := (serOrd d).getD []
theorem rdeals_u {d : List Op3} (hd : ∀ o ∈ d, 1 ≤ o.1 ∧ o.1 ≤ 6) (hl : d.length ≤ 40) (v : Value) (w : World) (h : IsOps w v d) :
    Calls Tryd.prog 16 #[v] w fun e w' => ∃ v', e = .returned v' ∧ IsInts w' v' (dealsL d) ∧ Below w.heap.size w w' := by
  refine (refDeals_any d v w h hl).mono fun e w' ⟨v', he, hI, hb⟩ => ⟨v', he, ?_, hb⟩
  rw [← puts_deals hd]; exact hI
set_option maxHeartbeats 2000000 in
theorem refOrd_u (l : List Op3) (v : Value) (w : World) (h : IsOps w v l) (hc : (chk l).2 = 0) :
    Calls Tryd.prog 6 #[v] w fun e w' => ∃ v', e = .returned (.tuple #[v', .bool (serOrd (doneL l)).isSome]) ∧ IsInts w' v' (ordL (doneL l)) ∧ Below w.heap.size w w' := by
  have hdo := doing_done hc
  have hl40 := chk_len (chk_done hc)
  have hdone : Calls Tryd.prog 17 #[v] w fun e w' => ∃ v', e = .returned v' ∧ IsOps w' v' (doneL l) ∧ Below w.heap.size w w' := refDone_any l v w h hc
  have hed : ∀ W, Below w.heap.size w W → Calls Tryd.prog 18 #[v] W fun e w' => ∃ v', e = .returned v' ∧ IsEdges w' v' (edgesTo (doneL l) 36) ∧ Below W.heap.size W w' := fun W hW => by
    rw [edges_same _ hdo.deal]
    exact refEdges_any l v W (h.below hW (Nat.le_refl _)) hc
  obtain ⟨d, hd⟩ : ∃ d, doneL l = d := ⟨_, rfl⟩
  rw [hd] at hdone hed hdo hl40 ⊢
  have HD : Hid (Calls Tryd.prog 17 #[v] w fun e w' => ∃ v', e = .returned v' ∧ IsOps w' v' d ∧ Below w.heap.size w w') := hdone
  have HE : Hid (∀ W, Below w.heap.size w W → Calls Tryd.prog 18 #[v] W fun e w' => ∃ v', e = .returned v' ∧ IsEdges w' v' (edgesTo d 36) ∧ Below W.heap.size W w') := hed
  have HDO : Hid (Doing d) := hdo
  clear hd hdone hed hdo h hc
  go_enter Tryd.func6, Tryd.ntmps6
  go_wp2_with fail
  refine HD.out.mono ?_
  rintro e w1 ⟨v1, rfl, hI1, hb1⟩
  have HI1 : Hid (IsOps w1 v1 d) := hI1
  clear hI1
  go_wp2_with fail
  refine (rdeals_u HDO.out.deal hl40 _ _ HI1.out).mono ?_
  rintro e w2 ⟨v2, rfl, hI2, hb2⟩
  have HI2 : Hid (IsInts w2 v2 (dealsL d)) := hI2
  have hb02 := hb1.trans (hb2.mono hb1.size)
  clear hI2
  go_wp2_with fail
  refine (HE.out _ hb02).mono ?_
  rintro e w3 ⟨v3, rfl, hE3, hb3⟩
  have HE3 : Hid (IsEdges w3 v3 (edgesTo d 36)) := hE3
  have HI3 : Hid (IsInts w3 v2 (dealsL d)) := HI2.out.below hb3 (Nat.le_refl _)
  have hb03 := hb02.trans (hb3.mono hb02.size)
  clear hE3
  go_wp2_with fail
  refine (sortd_any (dealsL d) (edgesTo d 36) _ _ _ HI3.out HE3.out (edges_gchk d 36) (dealsL_rise d) (fun x hx => ⟨(mem_deals.1 hx).1, (mem_deals.1 hx).2.1⟩) fun e he => (edges_deals HDO.out.deal he).1).mono ?_
  rintro e w4 ⟨hor, hb4⟩
  have hb04 := hb03.trans (hb4.mono hb03.size)
  rcases hor with ⟨o, v4, ho, rfl, hI4, _⟩ | ⟨ho, rfl⟩
  · rw [serOrd_sort HDO.out.deal] at ho
    have HO : Hid (serOrd d = some o) := ho
    have HI4 : Hid (IsInts w4 v4 o) := hI4
    clear ho hI4
    go_wp2_with fail
    go_ret2
    exact ⟨_, by rw [HO.out]; rfl, by unfold ordL; rw [HO.out]; exact HI4.out, hb04⟩
  · rw [serOrd_sort HDO.out.deal] at ho
    have HO : Hid (serOrd d = none) := ho
    clear ho
    go_wp2_with fail
    go_ret2
    exact ⟨_, by rw [HO.out]; rfl, by unfold ordL; rw [HO.out]; exact isInts_nil _, hb04⟩
end Go.Proofs.YtmjjiehnjghndaaDoor
