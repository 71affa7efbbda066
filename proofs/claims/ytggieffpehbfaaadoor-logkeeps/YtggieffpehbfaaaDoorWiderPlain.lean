/-
  PROVED HERE: plain facts, with no word of the program: lists that are the same but for what may change places look the same; where there is an order of which something is so one is found.
  Conditions: none.
  (Of these, what the claim wants: the rest was left out.)
-/
import Derived.Test.YtggieffpehbfaaaDoorOddSame
import Derived.Test.YtggieffpehbfaaaDoorViewPlain
namespace Go.Proofs.YtggieffpehbfaaaDoor

/-- Two lists are the same but for what may change places. -/
structure Kept (h g : List Op3) : Prop where
  len : h.length = g.length
  deals : dealsEq h g
  keep : ∀ i j, i < j → j < h.length → oddB (opAt h i) (opAt h j) = true → ¬ spot h g j < spot h g i
theorem spot_name {h g : List Op3} (hh : ∀ o ∈ h, isOpB o = true) (hd : dealsEq h g) {i : Nat} (hi : i < h.length) : spot h g i < g.length ∧ nameAt g (spot h g i) = nameAt h i := by
  obtain ⟨k, k1, k2⟩ := named_of_deals (fun o ho => isOp_deal (hh o ho)) hd i hi
  have : spot h g i = k := by unfold spot; rw [place_name k1 k2]; rfl
  rw [this]; exact ⟨k1, k2⟩
theorem spot_inj {h g : List Op3} (hh : ∀ o ∈ h, isOpB o = true) (hd : dealsEq h g) {i j : Nat} (hi : i < h.length) (hj : j < h.length) (he : spot h g i = spot h g j) : i = j := by
  have h1 := (spot_name hh hd hi).2
  have h2 := (spot_name hh hd hj).2
  rw [he, h2] at h1
  exact name_inj hi hj h1.symm
theorem spot_all {h g : List Op3} (hg : ∀ o ∈ g, isOpB o = true) (hd : dealsEq h g) {k : Nat} (hk : k < g.length) : ∃ i, i < h.length ∧ spot h g i = k ∧ nameAt h i = nameAt g k := by
  obtain ⟨i, i1, i2⟩ := named_of_deals (fun o ho => isOp_deal (hg o ho)) (deals_symm hd) k hk
  refine ⟨i, i1, ?_, i2⟩
  unfold spot; rw [place_name hk i2.symm]; rfl
theorem nth_lt {l : List Op3} {i j : Nat} (hij : i < j) (hj : j < l.length) (he : (opAt l i).1 = (opAt l j).1) : nthAt l i < nthAt l j := by
  have h1 := nth_mono (Nat.le_of_lt hij) he
  rcases Nat.lt_or_eq_of_le h1 with h2 | h2
  · exact h2
  · have p1 := placeOf_at l i (by omega)
    have p2 := placeOf_at l j hj
    rw [he, h2, p2] at p1
    have := Option.some.inj p1
    omega
/-- Two ops of one item, one of them a Write, keep their order. -/
theorem Kept.lt {h g : List Op3} (hK : Kept h g) (hh : ∀ o ∈ h, isOpB o = true) {i j : Nat} (hij : i < j) (hj : j < h.length) (hx : (opAt h i).2.2 = (opAt h j).2.2) (hw : (opAt h i).2.1 = 2 ∨ (opAt h j).2.1 = 2) : spot h g i < spot h g j := by
  have hne : spot h g i ≠ spot h g j := fun e => by have := spot_inj hh hK.deals (by omega) hj e; omega
  by_cases hd : (opAt h i).1 = (opAt h j).1
  · have hi' := spot_name hh hK.deals (show i < h.length by omega)
    have hj' := spot_name hh hK.deals hj
    obtain ⟨a1, a2⟩ := name_parts hi'.2
    obtain ⟨b1, b2⟩ := name_parts hj'.2
    rcases Nat.lt_or_ge (spot h g i) (spot h g j) with h1 | h1
    · exact h1
    · have h2 := nth_mono h1 (by rw [a1, b1]; exact hd.symm)
      rw [a2, b2] at h2
      have := nth_lt hij hj hd
      omega
  · have ho : oddB (opAt h i) (opAt h j) = true := by
      unfold oddB
      simp only [Bool.and_eq_true, bne_iff_ne, beq_iff_eq, Bool.or_eq_true]
      exact ⟨hd, hx, hw⟩
    have := hK.keep i j hij hj ho
    omega
theorem wrTo_of {l : List Op3} {x : Int} : ∀ {k j : Nat}, j < k → (opAt l j).2.1 = 2 → (opAt l j).2.2 = x → (∀ i, j < i → i < k → ¬ ((opAt l i).2.1 = 2 ∧ (opAt l i).2.2 = x)) → wrTo l x k = some j := by
  intro k
  induction k with
  | zero => intro j h; omega
  | succ k ih =>
    intro j hj h1 h2 h3
    rcases Nat.lt_or_ge j k with e | e
    · rw [wrTo_pass (h3 k e (by omega))]
      exact ih e h1 h2 fun i i1 i2 => h3 i i1 (by omega)
    · obtain rfl : j = k := by omega
      exact wrTo_hit h1 h2
theorem wrTo_no {l : List Op3} {x : Int} : ∀ {k : Nat}, (∀ i, i < k → ¬ ((opAt l i).2.1 = 2 ∧ (opAt l i).2.2 = x)) → wrTo l x k = none := by
  intro k
  induction k with
  | zero => intro _; rfl
  | succ k ih =>
    intro h
    rw [wrTo_pass (h k (by omega))]
    exact ih fun i hi => h i (by omega)
/-- The Write that was last of an item ahead of some place stands where its name stands. -/
theorem Kept.wr {h g : List Op3} (hK : Kept h g) (hh : ∀ o ∈ h, isOpB o = true) (hg : ∀ o ∈ g, isOpB o = true) {x : Int} {i k : Nat} (hi : i ≤ h.length) (hk : k ≤ g.length)
    (hcut : ∀ j, j < h.length → (opAt h j).2.1 = 2 → (opAt h j).2.2 = x → (j < i ↔ spot h g j < k)) : lastW h i x = lastW g k x := by
  cases ha : wrTo h x i with
  | none =>
    have hn := wrTo_none ha
    rw [lastW_none ha, lastW_none]
    refine wrTo_no fun m hm hw => ?_
    obtain ⟨j, j1, j2, j3⟩ := spot_all hg hK.deals (show m < g.length by omega)
    have hop := (name_parts j3).1
    exact hn j ((hcut j j1 (by rw [hop]; exact hw.1) (by rw [hop]; exact hw.2)).2 (by omega)) (by rw [hop]; exact hw)
  | some a =>
    obtain ⟨a1, a2, a3, a4⟩ := wrTo_some ha
    have hs := spot_name hh hK.deals (show a < h.length by omega)
    have hop := (name_parts hs.2).1
    rw [lastW_some ha, lastW_some (wrTo_of (j := spot h g a) ((hcut a (by omega) a2 a3).1 a1) (by rw [hop]; exact a2) (by rw [hop]; exact a3) fun m m1 m2 hw => ?_), hs.2]
    obtain ⟨j, j1, j2, j3⟩ := spot_all hg hK.deals (show m < g.length by omega)
    have hop2 := (name_parts j3).1
    have hw2 : (opAt h j).2.1 = 2 ∧ (opAt h j).2.2 = x := by rw [hop2]; exact hw
    have hji := (hcut j j1 hw2.1 hw2.2).2 (by omega)
    rcases Nat.lt_trichotomy j a with e | e | e
    · have := hK.lt hh e (by omega) (by rw [hw2.2, a3]) (.inl hw2.1)
      omega
    · subst e; omega
    · exact a4 j e hji hw2
end Go.Proofs.YtggieffpehbfaaaDoor
