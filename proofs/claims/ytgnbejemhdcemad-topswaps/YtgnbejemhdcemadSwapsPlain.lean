/-
  PROVED HERE: plain facts, with no word of the program: swapped as often as may be, a list stays right, the same by odds, with the same edges, looks, and values.
  Conditions: none.
-/
import Derived.Test.YtgnbejemhdcemadWider2Plain
import Derived.Test.YtgnbejemhdcemadSwapVals
namespace Go.Proofs.Ytgnbejemhdcemad

theorem Kept.same {h g : List Op3} (hK : Kept h g) (hh : ∀ o ∈ h, isOpB o = true) : sameB h g = true := by
  rw [sameB_yes ⟨hK.len, named_of_deals (fun o ho => isOp_deal (hh o ho)) hK.deals⟩, Bool.not_eq_true', List.any_eq_false]
  intro e he
  obtain ⟨i, j, hij, hj, ho, rfl⟩ := mem_pairs.1 he
  have := hK.keep i j hij hj ho
  simpa [turnedB] using this
theorem Kept.refl {h : List Op3} : Kept h h := by
  refine ⟨rfl, fun _ _ _ => rfl, fun i j hij hj _ => ?_⟩
  rw [spot_at (show i < h.length by omega) rfl, spot_at hj rfl]
  omega
theorem Kept.trans {h g k : List Op3} (a : Kept h g) (b : Kept g k) (hh : ∀ o ∈ h, isOpB o = true) (hg : ∀ o ∈ g, isOpB o = true) : Kept h k := by
  refine ⟨a.len.trans b.len, fun t h1 h6 => (a.deals t h1 h6).trans (b.deals t h1 h6), fun i j hij hj ho => ?_⟩
  obtain ⟨i1, i2⟩ := spot_name hh a.deals (show i < h.length by omega)
  obtain ⟨j1, j2⟩ := spot_name hh a.deals hj
  obtain ⟨p1, p2⟩ := spot_name hg b.deals i1
  obtain ⟨q1, q2⟩ := spot_name hg b.deals j1
  have e1 : spot h k i = spot g k (spot h g i) := spot_at p1 (p2.trans i2)
  have e2 : spot h k j = spot g k (spot h g j) := spot_at q1 (q2.trans j2)
  have hn := a.keep i j hij hj ho
  have hne : spot h g i ≠ spot h g j := fun e => by
    have := spot_inj hh a.deals (show i < h.length by omega) hj e
    omega
  rw [e1, e2]
  exact b.keep _ _ (by omega) j1 (by rw [name_op i2, name_op j2]; exact ho)
/-- What comes of a list by swaps. -/
structure Like (h g : List Op3) : Prop where
  right : (chk g).2 = 0
  kept : Kept h g
  edges : edgesTo (doneL g) 36 = edgesTo (doneL h) 36
theorem Like.start {h : List Op3} (hc : (chk h).2 = 0) : Like h h := ⟨hc, Kept.refl, rfl⟩
theorem Like.swap {h g : List Op3} (hc : (chk h).2 = 0) (a : Like h g) {i : Nat} (hi : i + 1 < g.length) (hne : (opAt g i).1 ≠ (opAt g (i + 1)).1) (ho : oddB (opAt g i) (opAt g (i + 1)) = false) : Like h (swapL g i) := by
  have hr := swap_chk a.right hi hne
  have hs := swap_same (fun o h => isOp_deal (chk_ops a.right o h)) hi hne ho
  exact ⟨hr, a.kept.trans (kept_of (chk_ops a.right) (chk_ops hr) hs) (chk_ops hc) (chk_ops a.right), (swap_edges a.right hi ho).trans a.edges⟩
theorem Like.all {h g : List Op3} (hc : (chk h).2 = 0) (a : Like h g) : sameB h g = true ∧ sightB (doneL h) (doneL g) = true ∧ valsL (doneL g) = valsL (doneL h) ∧ (serOrd (doneL g) = none ↔ orderL (edgesTo (doneL h) 36) = none) := by
  have h1 := a.kept.same (chk_ops hc)
  have h2 := same_sight_done (chk_ops hc) (chk_ops a.right) h1
  exact ⟨h1, h2, (vals_same (chk_ops (chk_done hc)) (chk_ops (chk_done a.right)) h2).symm, by rw [serOrd_none, a.edges]⟩
end Go.Proofs.Ytgnbejemhdcemad
