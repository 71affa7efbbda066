/-
  PROVED HERE: plain facts on lists, with no word of the program: the place of a deal's n-th op; the names of ops (an op, and which of its deal's ops it is); two lists have the same names just if they have the same ops of each deal, in the same order; and then an op's place is where its name stands.
  Conditions: none.
  (Of these, what the claim wants: the rest was left out.)
-/
import Derived.Test.YtggieffpehbfaaaDoorOddPlain
import Derived.Test.YtggieffpehbfaaaDoorBack
namespace Go.Proofs.YtggieffpehbfaaaDoor

/-- The place of a deal's n-th op. -/
def placeOf : List Op3 → Int → Nat → Option Nat
  | [], _, _ => none
  | o :: r, t, n => if o.1 = t then (if n = 0 then some 0 else (placeOf r t (n - 1)).map (· + 1)) else (placeOf r t n).map (· + 1)
/-- Which of its deal's ops an op is. -/
def nthAt (l : List Op3) (i : Nat) : Nat := (ofL (l.take i) (opAt l i).1).length
def nameAt (l : List Op3) (i : Nat) : Op3 × Nat := (opAt l i, nthAt l i)
theorem opAt_cons (o : Op3) (r : List Op3) (i : Nat) : opAt (o :: r) (i + 1) = opAt r i := by simp [opAt]
theorem ofL_cons (o : Op3) (r : List Op3) (t : Int) : ofL (o :: r) t = if o.1 = t then o :: ofL r t else ofL r t := by
  unfold ofL
  rw [List.filter_cons]
  by_cases h : o.1 = t <;> simp [h]
theorem placeOf_at : ∀ (l : List Op3) (k : Nat), k < l.length → placeOf l (opAt l k).1 (nthAt l k) = some k := by
  intro l
  induction l with
  | nil => intro k h; simp at h
  | cons o r ih =>
    intro k h
    cases k with
    | zero => simp [placeOf, opAt, nthAt, ofL]
    | succ k =>
      have hk : k < r.length := by simpa using h
      have h1 := ih k hk
      unfold nthAt at h1 ⊢
      rw [opAt_cons, List.take_succ_cons, ofL_cons]
      simp only [placeOf]
      by_cases ho : o.1 = (opAt r k).1
      · rw [if_pos ho, if_pos ho, List.length_cons, if_neg (by omega), Nat.add_sub_cancel, h1]; rfl
      · rw [if_neg ho, if_neg ho, h1]; rfl
theorem name_inj {l : List Op3} {i k : Nat} (hi : i < l.length) (hk : k < l.length) (h : nameAt l i = nameAt l k) : i = k := by
  have h1 := placeOf_at l i hi
  have h2 := placeOf_at l k hk
  unfold nameAt at h
  simp only [Prod.mk.injEq] at h
  rw [h.1, h.2, h2] at h1
  exact (Option.some.inj h1).symm
theorem place_name {h g : List Op3} {i k : Nat} (hk : k < g.length) (hn : nameAt g k = nameAt h i) : placeOf g (opAt h i).1 (nthAt h i) = some k := by
  unfold nameAt at hn
  simp only [Prod.mk.injEq] at hn
  rw [← hn.1, ← hn.2]
  exact placeOf_at g k hk
theorem split_at {l : List Op3} {i : Nat} (hi : i < l.length) : l = l.take i ++ opAt l i :: l.drop (i + 1) := by
  have h : l[i] :: l.drop (i + 1) = l.drop i := (List.drop_eq_getElem_cons hi).symm
  have e : opAt l i = l[i] := by simp [opAt, List.getD, List.getElem?_eq_getElem hi]
  rw [e, h, List.take_append_drop]
theorem ofL_append (l m : List Op3) (t : Int) : ofL (l ++ m) t = ofL l t ++ ofL m t := by simp [ofL]
theorem of_nth {l : List Op3} {i : Nat} (hi : i < l.length) : (ofL l (opAt l i).1)[nthAt l i]? = some (opAt l i) := by
  have h := split_at hi
  generalize ho : opAt l i = o at h
  have hn : nthAt l i = (ofL (l.take i) o.1).length := by unfold nthAt; rw [ho]
  have e : ofL l o.1 = ofL (l.take i) o.1 ++ (o :: ofL (l.drop (i + 1)) o.1) := (congrArg (fun m => ofL m o.1) h).trans (by rw [ofL_append, ofL_cons, if_pos rfl])
  rw [hn, e, List.getElem?_append_right (Nat.le_refl _), Nat.sub_self]
  rfl
theorem nth_some : ∀ (l : List Op3) (t : Int) (n : Nat) (o : Op3), (ofL l t)[n]? = some o → ∃ k, k < l.length ∧ opAt l k = o ∧ nthAt l k = n := by
  intro l
  induction l with
  | nil => intro t n o h; simp [ofL] at h
  | cons a r ih =>
    intro t n o h
    rw [ofL_cons] at h
    by_cases ha : a.1 = t
    · rw [if_pos ha] at h
      cases n with
      | zero =>
        simp at h
        subst h
        exact ⟨0, by simp, by simp [opAt], by simp [nthAt, ofL]⟩
      | succ n =>
        obtain ⟨k, h1, h2, h3⟩ := ih t n o (by simpa using h)
        have ho : o.1 = t := by
          have hm := List.mem_of_getElem? (show (ofL r t)[n]? = some o by simpa using h)
          simpa [ofL] using (List.mem_filter.1 hm).2
        refine ⟨k + 1, by simpa using h1, by rw [opAt_cons]; exact h2, ?_⟩
        unfold nthAt at h3 ⊢
        rw [opAt_cons, List.take_succ_cons, ofL_cons, h2, if_pos (by rw [ho]; exact ha), List.length_cons, ← h3, h2]
    · rw [if_neg ha] at h
      obtain ⟨k, h1, h2, h3⟩ := ih t n o h
      have ho : o.1 = t := by
        have hm := List.mem_of_getElem? h
        simpa [ofL] using (List.mem_filter.1 hm).2
      refine ⟨k + 1, by simpa using h1, by rw [opAt_cons]; exact h2, ?_⟩
      unfold nthAt at h3 ⊢
      rw [opAt_cons, List.take_succ_cons, ofL_cons, h2, if_neg (by rw [ho]; exact ha), ← h3, h2]
/-- All names of the one are names of the other. -/
def Named (h g : List Op3) : Prop := ∀ i, i < h.length → ∃ k, k < g.length ∧ nameAt g k = nameAt h i
def dealsEq (h g : List Op3) : Prop := ∀ t : Int, 1 ≤ t → t ≤ 6 → ofL h t = ofL g t
theorem named_of_deals {h g : List Op3} (hh : ∀ o ∈ h, 1 ≤ o.1 ∧ o.1 ≤ 6) (hd : dealsEq h g) : Named h g := by
  intro i hi
  have h1 := of_nth hi
  have hb := hh _ (opAt_mem hi)
  rw [hd _ hb.1 hb.2] at h1
  obtain ⟨k, k1, k2, k3⟩ := nth_some g _ _ _ h1
  exact ⟨k, k1, by unfold nameAt; rw [k2, k3]⟩
/-- Where an op of the one stands in the other; 0 if nowhere. -/
def spot (h g : List Op3) (i : Nat) : Nat := (placeOf g (opAt h i).1 (nthAt h i)).getD 0
end Go.Proofs.YtggieffpehbfaaaDoor
