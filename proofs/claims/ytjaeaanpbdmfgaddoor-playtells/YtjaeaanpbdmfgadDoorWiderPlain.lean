/-
  PROVED HERE: plain facts, with no word of the program: lists that are the same but for what may change places look the same; where there is an order of which something is so one is found.
  Conditions: none.
-/
import Derived.Test.YtjaeaanpbdmfgadDoorSamePlain
import Derived.Test.YtjaeaanpbdmfgadDoorViewPlain
namespace Go.Proofs.YtjaeaanpbdmfgadDoor

/-- Two lists are the same but for what may change places. -/
structure Kept (h g : List Op3) : Prop where
  len : h.length = g.length
  deals : dealsEq h g
  keep : ∀ i j, i < j → j < h.length → oddB (opAt h i) (opAt h j) = true → ¬ spot h g j < spot h g i
theorem kept_of {h g : List Op3} (hh : ∀ o ∈ h, isOpB o = true) (hg : ∀ o ∈ g, isOpB o = true) (hs : sameB h g = true) : Kept h g := by
  simp only [sameB, Bool.and_eq_true, beq_iff_eq, Bool.not_eq_true'] at hs
  obtain ⟨⟨h1, h2⟩, h3⟩ := hs
  have hd := deals_of_named (fun o ho => isOp_deal (hh o ho)) (fun o ho => isOp_deal (hg o ho)) h1 ((namedB_iff h g).1 h2)
  refine ⟨h1, hd, fun i j hij hj ho hlt => ?_⟩
  have hm : ((i : Int), (j : Int)) ∈ pairsL h := mem_pairs.2 ⟨i, j, hij, hj, ho, rfl⟩
  have := List.any_eq_false.1 h3 _ hm
  exact this (by simpa [turnedB] using hlt)
theorem spot_name {h g : List Op3} (hh : ∀ o ∈ h, isOpB o = true) (hd : dealsEq h g) {i : Nat} (hi : i < h.length) : spot h g i < g.length ∧ nameAt g (spot h g i) = nameAt h i := by
  obtain ⟨k, k1, k2⟩ := named_of_deals (fun o ho => isOp_deal (hh o ho)) hd i hi
  have : spot h g i = k := by unfold spot; rw [place_name k1 k2]; rfl
  rw [this]; exact ⟨k1, k2⟩
theorem spot_inj {h g : List Op3} (hh : ∀ o ∈ h, isOpB o = true) (hd : dealsEq h g) {i j : Nat} (hi : i < h.length) (hj : j < h.length) (he : spot h g i = spot h g j) : i = j := by
  have h1 := (spot_name hh hd hi).2
  have h2 := (spot_name hh hd hj).2
  rw [he, h2] at h1
  exact name_inj hi hj h1.symm
theorem spot_all {h g : List Op3} (hg : ∀ o ∈ g, isOpB o = true) (hd : dealsEq h g) {k : Nat} (hk : k < g.length) : ∃ i, i < h.length ∧ spot h g i = k ∧ nameAt h i = nameAt g k := by
  obtain ⟨i, i1, i2⟩ := named_of_deals (fun o ho => isOp_deal (hg o ho)) (deals_symm hd) k hk
  refine ⟨i, i1, ?_, i2⟩
  unfold spot; rw [place_name hk i2.symm]; rfl
theorem nth_lt {l : List Op3} {i j : Nat} (hij : i < j) (hj : j < l.length) (he : (opAt l i).1 = (opAt l j).1) : nthAt l i < nthAt l j := by
  have h1 := nth_mono (Nat.le_of_lt hij) he
  rcases Nat.lt_or_eq_of_le h1 with h2 | h2
  · exact h2
  · have p1 := placeOf_at l i (by omega)
    have p2 := placeOf_at l j hj
    rw [he, h2, p2] at p1
    have := Option.some.inj p1
    omega
/-- Two ops of one item, one of them a Write, keep their order. -/
theorem Kept.lt {h g : List Op3} (hK : Kept h g) (hh : ∀ o ∈ h, isOpB o = true) {i j : Nat} (hij : i < j) (hj : j < h.length) (hx : (opAt h i).2.2 = (opAt h j).2.2) (hw : (opAt h i).2.1 = 2 ∨ (opAt h j).2.1 = 2) : spot h g i < spot h g j := by
  have hne : spot h g i ≠ spot h g j := fun e => by have := spot_inj hh hK.deals (by omega) hj e; omega
  by_cases hd : (opAt h i).1 = (opAt h j).1
  · have hi' := spot_name hh hK.deals (show i < h.length by omega)
    have hj' := spot_name hh hK.deals hj
    obtain ⟨a1, a2⟩ := name_parts hi'.2
    obtain ⟨b1, b2⟩ := name_parts hj'.2
    rcases Nat.lt_or_ge (spot h g i) (spot h g j) with h1 | h1
    · exact h1
    · have h2 := nth_mono h1 (by rw [a1, b1]; exact hd.symm)
      rw [a2, b2] at h2
      have := nth_lt hij hj hd
      omega
  · have ho : oddB (opAt h i) (opAt h j) = true := by
      unfold oddB
      simp only [Bool.and_eq_true, bne_iff_ne, beq_iff_eq, Bool.or_eq_true]
      exact ⟨hd, hx, hw⟩
    have := hK.keep i j hij hj ho
    omega
theorem wrTo_of {l : List Op3} {x : Int} : ∀ {k j : Nat}, j < k → (opAt l j).2.1 = 2 → (opAt l j).2.2 = x → (∀ i, j < i → i < k → ¬ ((opAt l i).2.1 = 2 ∧ (opAt l i).2.2 = x)) → wrTo l x k = some j := by
  intro k
  induction k with
  | zero => intro j h; omega
  | succ k ih =>
    intro j hj h1 h2 h3
    rcases Nat.lt_or_ge j k with e | e
    · rw [wrTo_pass (h3 k e (by omega))]
      exact ih e h1 h2 fun i i1 i2 => h3 i i1 (by omega)
    · obtain rfl : j = k := by omega
      exact wrTo_hit h1 h2
theorem wrTo_no {l : List Op3} {x : Int} : ∀ {k : Nat}, (∀ i, i < k → ¬ ((opAt l i).2.1 = 2 ∧ (opAt l i).2.2 = x)) → wrTo l x k = none := by
  intro k
  induction k with
  | zero => intro _; rfl
  | succ k ih =>
    intro h
    rw [wrTo_pass (h k (by omega))]
    exact ih fun i hi => h i (by omega)
/-- The Write that was last of an item ahead of some place stands where its name stands. -/
theorem Kept.wr {h g : List Op3} (hK : Kept h g) (hh : ∀ o ∈ h, isOpB o = true) (hg : ∀ o ∈ g, isOpB o = true) {x : Int} {i k : Nat} (hi : i ≤ h.length) (hk : k ≤ g.length)
    (hcut : ∀ j, j < h.length → (opAt h j).2.1 = 2 → (opAt h j).2.2 = x → (j < i ↔ spot h g j < k)) : lastW h i x = lastW g k x := by
  cases ha : wrTo h x i with
  | none =>
    have hn := wrTo_none ha
    rw [lastW_none ha, lastW_none]
    refine wrTo_no fun m hm hw => ?_
    obtain ⟨j, j1, j2, j3⟩ := spot_all hg hK.deals (show m < g.length by omega)
    have hop := (name_parts j3).1
    exact hn j ((hcut j j1 (by rw [hop]; exact hw.1) (by rw [hop]; exact hw.2)).2 (by omega)) (by rw [hop]; exact hw)
  | some a =>
    obtain ⟨a1, a2, a3, a4⟩ := wrTo_some ha
    have hs := spot_name hh hK.deals (show a < h.length by omega)
    have hop := (name_parts hs.2).1
    rw [lastW_some ha, lastW_some (wrTo_of (j := spot h g a) ((hcut a (by omega) a2 a3).1 a1) (by rw [hop]; exact a2) (by rw [hop]; exact a3) fun m m1 m2 hw => ?_), hs.2]
    obtain ⟨j, j1, j2, j3⟩ := spot_all hg hK.deals (show m < g.length by omega)
    have hop2 := (name_parts j3).1
    have hw2 : (opAt h j).2.1 = 2 ∧ (opAt h j).2.2 = x := by rw [hop2]; exact hw
    have hji := (hcut j j1 hw2.1 hw2.2).2 (by omega)
    rcases Nat.lt_trichotomy j a with e | e | e
    · have := hK.lt hh e (by omega) (by rw [hw2.2, a3]) (.inl hw2.1)
      omega
    · subst e; omega
    · exact a4 j e hji hw2
theorem Kept.sight {h g : List Op3} (hK : Kept h g) (hh : ∀ o ∈ h, isOpB o = true) (hg : ∀ o ∈ g, isOpB o = true) : sightB h g = true := by
  refine sightB_iff.2 ⟨hK.len.symm, fun k hk => seenB_iff.2 ?_, leftB_iff.2 fun x hx => ?_⟩
  · obtain ⟨i, i1, i2, i3⟩ := spot_all hg hK.deals hk
    refine ⟨i, i1, i3, ?_⟩
    have hop := (name_parts i3).1
    unfold srcN
    rw [hop]
    by_cases hr : (opAt g k).2.1 = 1
    · rw [if_pos hr, if_pos hr]
      refine hK.wr hh hg (by omega) (by omega) fun j hj h2 hx => ?_
      have hxe : (opAt h j).2.2 = (opAt h i).2.2 := by rw [hx, hop]
      constructor
      · intro hji
        rw [← i2]
        exact hK.lt hh hji i1 hxe (.inl h2)
      · intro hlt
        rcases Nat.lt_trichotomy j i with e | e | e
        · exact e
        · subst e; omega
        · have := hK.lt hh e hj hxe.symm (.inr h2)
          omega
    · rw [if_neg hr, if_neg hr]
  · refine hK.wr hh hg (Nat.le_refl _) (Nat.le_refl _) fun j hj _ _ => ⟨fun _ => (spot_name hh hK.deals hj).1, fun _ => hj⟩
theorem same_sight {h g : List Op3} (hh : ∀ o ∈ h, isOpB o = true) (hg : ∀ o ∈ g, isOpB o = true) (hs : sameB h g = true) : sightB h g = true := (kept_of hh hg hs).sight hh hg
/-- Where there is an order of which it is so, one is found. -/
theorem tryO_some {ds : List Int} {p : List Int → Bool} : ∀ (f : Nat) (b o : List Int), b.length + f = ds.length → Begun ds (b ++ o) → o.length = f → p (b ++ o) = true → (tryO ds p f b).isSome = true := by
  intro f
  induction f with
  | zero =>
    intro b o _ _ ho hp
    obtain rfl := List.length_eq_zero_iff.1 ho
    rw [List.append_nil] at hp
    rw [tryO, if_pos hp]; rfl
  | succ f ih =>
    intro b o hb hB ho hp
    cases o with
    | nil => simp at ho
    | cons t o =>
      have hq : b ++ t :: o = (b ++ [t]) ++ o := by simp
      have h1 := ih (b ++ [t]) o (by simp; omega) (hq ▸ hB) (by simpa using ho) (hq ▸ hp)
      have htd : t ∈ ds := hB.all t (by simp)
      have htb : t ∉ b := fun hm => by
        have := hB.once
        rw [List.nodup_append] at this
        exact this.2.2 t hm t (by simp) rfl
      rw [tryO]
      cases hf : ds.findSome? fun t => if b.contains t = true then none else tryO ds p f (b ++ [t]) with
      | some r => rfl
      | none =>
        have := List.findSome?_eq_none_iff.1 hf t htd
        rw [if_neg (by simpa using htb)] at this
        rw [this] at h1
        cases h1
end Go.Proofs.YtjaeaanpbdmfgadDoor
