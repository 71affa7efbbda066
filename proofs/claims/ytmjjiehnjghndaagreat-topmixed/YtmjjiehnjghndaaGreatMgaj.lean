/-
  PROVED HERE: plain facts on lists, with no word of the program: the place of a deal's n-th op; the names of ops (an op, and which of its deal's ops it is); two lists have the same names just if they have the same ops of each deal, in the same order; and then an op's place is where its name stands.
  Conditions: none.
  (Of these, what the claim wants: the rest was left out.)
  PROVED HERE: plain facts, with no word of the program: what is done, deal by deal along an order of its deals, is right, done, and has the same ops of each deal.
  Conditions: none.
-/
import Derived.Test.YtmjjiehnjghndaaGreatMgab
import Derived.Test.YtmjjiehnjghndaaGreatMgaf
import Derived.Test.YtmjjiehnjghndaaGreatMgah
namespace Go.Proofs.YtmjjiehnjghndaaGreat

/-- The place of a deal's n-th op. -/
def placeOf : List Op3 → Int → Nat → Option Nat
  | [], _, _ => none
  | o :: r, t, n => if o.1 = t then (if n = 0 then some 0 else (placeOf r t (n - 1)).map (· + 1)) else (placeOf r t n).map (· + 1)
/-- Which of its deal's ops an op is. -/
def nthAt (l : List Op3) (i : Nat) : Nat := (ofL (l.take i) (opAt l i).1).length
def nameAt (l : List Op3) (i : Nat) : Op3 × Nat := (opAt l i, nthAt l i)
theorem opAt_cons (o : Op3) (r : List Op3) (i : Nat) : opAt (o :: r) (i + 1) = opAt r i := by simp [opAt]
theorem ofL_cons (o : Op3) (r : List Op3) (t : Int) : ofL (o :: r) t = if o.1 = t then o :: ofL r t else ofL r t := by
  unfold ofL
  rw [List.filter_cons]
  by_cases h : o.1 = t <;> simp [h]
theorem placeOf_at : ∀ (l : List Op3) (k : Nat), k < l.length → placeOf l (opAt l k).1 (nthAt l k) = some k := by
  intro l
  induction l with
  | nil => intro k h; simp at h
  | cons o r ih =>
    intro k h
    cases k with
    | zero => simp [placeOf, opAt, nthAt, ofL]
    | succ k =>
      have hk : k < r.length := by simpa using h
      have h1 := ih k hk
      unfold nthAt at h1 ⊢
      rw [opAt_cons, List.take_succ_cons, ofL_cons]
      simp only [placeOf]
      by_cases ho : o.1 = (opAt r k).1
      · rw [if_pos ho, if_pos ho, List.length_cons, if_neg (by omega), Nat.add_sub_cancel, h1]; rfl
      · rw [if_neg ho, if_neg ho, h1]; rfl
theorem name_inj {l : List Op3} {i k : Nat} (hi : i < l.length) (hk : k < l.length) (h : nameAt l i = nameAt l k) : i = k := by
  have h1 := placeOf_at l i hi
  have h2 := placeOf_at l k hk
  unfold nameAt at h
  simp only [Prod.mk.injEq] at h
  rw [h.1, h.2, h2] at h1
  exact (Option.some.inj h1).symm
theorem place_name {h g : List Op3} {i k : Nat} (hk : k < g.length) (hn : nameAt g k = nameAt h i) : placeOf g (opAt h i).1 (nthAt h i) = some k := by
  unfold nameAt at hn
  simp only [Prod.mk.injEq] at hn
  rw [← hn.1, ← hn.2]
  exact placeOf_at g k hk
theorem split_at {l : List Op3} {i : Nat} (hi : i < l.length) : l = l.take i ++ opAt l i :: l.drop (i + 1) := by
  have h : l[i] :: l.drop (i + 1) = l.drop i := (List.drop_eq_getElem_cons hi).symm
  have e : opAt l i = l[i] := by simp [opAt, List.getD, List.getElem?_eq_getElem hi]
  rw [e, h, List.take_append_drop]
theorem ofL_append (l m : List Op3) (t : Int) : ofL (l ++ m) t = ofL l t ++ ofL m t := by simp [ofL]
theorem of_nth {l : List Op3} {i : Nat} (hi : i < l.length) : (ofL l (opAt l i).1)[nthAt l i]? = some (opAt l i) := by
  have h := split_at hi
  generalize ho : opAt l i = o at h
  have hn : nthAt l i = (ofL (l.take i) o.1).length := by unfold nthAt; rw [ho]
  have e : ofL l o.1 = ofL (l.take i) o.1 ++ (o :: ofL (l.drop (i + 1)) o.1) := (congrArg (fun m => ofL m o.1) h).trans (by rw [ofL_append, ofL_cons, if_pos rfl])
  rw [hn, e, List.getElem?_append_right (Nat.le_refl _), Nat.sub_self]
  rfl
theorem nth_some : ∀ (l : List Op3) (t : Int) (n : Nat) (o : Op3), (ofL l t)[n]? = some o → ∃ k, k < l.length ∧ opAt l k = o ∧ nthAt l k = n := by
  intro l
  induction l with
  | nil => intro t n o h; simp [ofL] at h
  | cons a r ih =>
    intro t n o h
    rw [ofL_cons] at h
    by_cases ha : a.1 = t
    · rw [if_pos ha] at h
      cases n with
      | zero =>
        simp at h
        subst h
        exact ⟨0, by simp, by simp [opAt], by simp [nthAt, ofL]⟩
      | succ n =>
        obtain ⟨k, h1, h2, h3⟩ := ih t n o (by simpa using h)
        have ho : o.1 = t := by
          have hm := List.mem_of_getElem? (show (ofL r t)[n]? = some o by simpa using h)
          simpa [ofL] using (List.mem_filter.1 hm).2
        refine ⟨k + 1, by simpa using h1, by rw [opAt_cons]; exact h2, ?_⟩
        unfold nthAt at h3 ⊢
        rw [opAt_cons, List.take_succ_cons, ofL_cons, h2, if_pos (by rw [ho]; exact ha), List.length_cons, ← h3, h2]
    · rw [if_neg ha] at h
      obtain ⟨k, h1, h2, h3⟩ := ih t n o h
      have ho : o.1 = t := by
        have hm := List.mem_of_getElem? h
        simpa [ofL] using (List.mem_filter.1 hm).2
      refine ⟨k + 1, by simpa using h1, by rw [opAt_cons]; exact h2, ?_⟩
      unfold nthAt at h3 ⊢
      rw [opAt_cons, List.take_succ_cons, ofL_cons, h2, if_neg (by rw [ho]; exact ha), ← h3, h2]
/-- All names of the one are names of the other. -/
def Named (h g : List Op3) : Prop := ∀ i, i < h.length → ∃ k, k < g.length ∧ nameAt g k = nameAt h i
def dealsEq (h g : List Op3) : Prop := ∀ t : Int, 1 ≤ t → t ≤ 6 → ofL h t = ofL g t
theorem sum_six (l : List Op3) (hl : ∀ o ∈ l, 1 ≤ o.1 ∧ o.1 ≤ 6) : l.length = (ofL l 1).length + (ofL l 2).length + (ofL l 3).length + (ofL l 4).length + (ofL l 5).length + (ofL l 6).length := by
  induction l with
  | nil => rfl
  | cons o r ih =>
    have ho := hl o (List.mem_cons_self ..)
    have ih' := ih fun p hp => hl p (List.mem_cons_of_mem _ hp)
    simp only [ofL_cons, List.length_cons]
    rcases (show o.1 = 1 ∨ o.1 = 2 ∨ o.1 = 3 ∨ o.1 = 4 ∨ o.1 = 5 ∨ o.1 = 6 by omega) with e | e | e | e | e | e <;> rw [e] <;> simp <;> omega
theorem named_of_deals {h g : List Op3} (hh : ∀ o ∈ h, 1 ≤ o.1 ∧ o.1 ≤ 6) (hd : dealsEq h g) : Named h g := by
  intro i hi
  have h1 := of_nth hi
  have hb := hh _ (opAt_mem hi)
  rw [hd _ hb.1 hb.2] at h1
  obtain ⟨k, k1, k2, k3⟩ := nth_some g _ _ _ h1
  exact ⟨k, k1, by unfold nameAt; rw [k2, k3]⟩
theorem len_of_deals {h g : List Op3} (hh : ∀ o ∈ h, 1 ≤ o.1 ∧ o.1 ≤ 6) (hg : ∀ o ∈ g, 1 ≤ o.1 ∧ o.1 ≤ 6) (hd : dealsEq h g) : h.length = g.length := by
  rw [sum_six h hh, sum_six g hg, hd 1 (by omega) (by omega), hd 2 (by omega) (by omega), hd 3 (by omega) (by omega), hd 4 (by omega) (by omega), hd 5 (by omega) (by omega), hd 6 (by omega) (by omega)]
theorem named_nth {h g : List Op3} (hn : Named h g) (t : Int) (n : Nat) (o : Op3) (he : (ofL h t)[n]? = some o) : (ofL g t)[n]? = some o := by
  obtain ⟨i, i1, i2, i3⟩ := nth_some h t n o he
  obtain ⟨k, k1, k2⟩ := hn i i1
  have ht : o.1 = t := by
    have hm := List.mem_of_getElem? he
    simpa [ofL] using (List.mem_filter.1 hm).2
  unfold nameAt at k2
  simp only [Prod.mk.injEq] at k2
  have h1 := of_nth k1
  rw [k2.1, k2.2, i2, i3, ht] at h1
  exact h1
theorem named_len {h g : List Op3} (hn : Named h g) (t : Int) : (ofL h t).length ≤ (ofL g t).length := by
  rcases Nat.eq_zero_or_pos (ofL h t).length with h0 | h0
  · omega
  · have hlt : (ofL h t).length - 1 < (ofL h t).length := by omega
    have h1 := named_nth hn t _ _ (List.getElem?_eq_getElem hlt)
    have := (List.getElem?_eq_some_iff.1 h1).1
    omega
theorem deals_of_named {h g : List Op3} (hh : ∀ o ∈ h, 1 ≤ o.1 ∧ o.1 ≤ 6) (hg : ∀ o ∈ g, 1 ≤ o.1 ∧ o.1 ≤ 6) (hl : h.length = g.length) (hn : Named h g) : dealsEq h g := by
  rw [sum_six h hh, sum_six g hg] at hl
  have n1 := named_len hn 1
  have n2 := named_len hn 2
  have n3 := named_len hn 3
  have n4 := named_len hn 4
  have n5 := named_len hn 5
  have n6 := named_len hn 6
  intro t h1 h6
  have hlen : (ofL h t).length = (ofL g t).length := by
    rcases (show t = 1 ∨ t = 2 ∨ t = 3 ∨ t = 4 ∨ t = 5 ∨ t = 6 by omega) with e | e | e | e | e | e <;> subst e <;> omega
  refine List.ext_getElem? fun n => ?_
  by_cases hlt : n < (ofL h t).length
  · rw [List.getElem?_eq_getElem hlt]
    exact (named_nth hn t n _ (List.getElem?_eq_getElem hlt)).symm
  · rw [List.getElem?_eq_none (by omega), List.getElem?_eq_none (by omega)]
/-- Where an op of the one stands in the other; 0 if nowhere. -/
def spot (h g : List Op3) (i : Nat) : Nat := (placeOf g (opAt h i).1 (nthAt h i)).getD 0
/-- The plain answer: the same but for what may change places. -/
def turnedB (h g : List Op3) (p : Edge2) : Bool := decide (spot h g p.2.toNat < spot h g p.1.toNat)
end Go.Proofs.YtmjjiehnjghndaaGreat

namespace Go.Proofs.YtmjjiehnjghndaaGreat

theorem along_cons (d : List Op3) (t : Int) (o : List Int) : alongL d (t :: o) = ofL d t ++ alongL d o := by simp [alongL]
theorem along_mem {d : List Op3} {o : List Int} {x : Op3} : x ∈ alongL d o ↔ x ∈ d ∧ x.1 ∈ o := by
  unfold alongL ofL
  simp only [List.mem_flatMap, List.mem_filter, beq_iff_eq]
  constructor
  · rintro ⟨t, ht, hx, rfl⟩; exact ⟨hx, ht⟩
  · rintro ⟨hx, ht⟩; exact ⟨_, ht, hx, rfl⟩
theorem ofL_ofL (d : List Op3) (u t : Int) : ofL (ofL d u) t = if u = t then ofL d t else [] := by
  unfold ofL
  rw [List.filter_filter]
  split
  · rename_i h
    subst h
    simp
  · rename_i h
    rw [List.filter_eq_nil_iff]
    intro a _ h2
    simp at h2
    exact h (h2.2.symm.trans h2.1)
theorem along_of {d : List Op3} {t : Int} : ∀ {o : List Int}, o.Nodup → ofL (alongL d o) t = if t ∈ o then ofL d t else [] := by
  intro o
  induction o with
  | nil => intro _; rfl
  | cons u o ih =>
    intro hn
    obtain ⟨h1, h2⟩ := List.nodup_cons.1 hn
    rw [along_cons, ofL_append, ofL_ofL, ih h2]
    by_cases e : u = t
    · subst e
      rw [if_pos rfl, if_neg h1, if_pos (List.mem_cons_self ..), List.append_nil]
    · rw [if_neg e, List.nil_append]
      by_cases h3 : t ∈ o
      · rw [if_pos h3, if_pos (List.mem_cons_of_mem _ h3)]
      · rw [if_neg h3, if_neg fun h => ?_]
        rcases List.mem_cons.1 h with h | h
        · exact e h.symm
        · exact h3 h
theorem order_once {d : List Op3} {o : List Int} (hs : sortI o = dealsL d) : o.Nodup := (sort_perm hs).nodup_iff.2 (rise_nodup (dealsL_rise _))
theorem order_mem {d : List Op3} {o : List Int} (hs : sortI o = dealsL d) {t : Int} : t ∈ o ↔ t ∈ dealsL d := (sort_perm hs).mem_iff
theorem along_deals {d : List Op3} {o : List Int} (hs : sortI o = dealsL d) : dealsEq (alongL d o) d := fun t h1 h6 => by
  rw [along_of (order_once hs)]
  split
  · rfl
  · rename_i h
    have h2 : hasB d t = false := by
      cases h3 : hasB d t with
      | false => rfl
      | true => exact absurd ((order_mem hs).2 (mem_deals.2 ⟨h1, h6, h3⟩)) h
    exact (List.length_eq_zero_iff.1 (of_none h2)).symm
theorem calm_of : ∀ {l : List Op3}, (∀ t, Calm (ofL l t)) → Calm l := by
  intro l
  induction l with
  | nil => intro _; exact List.Pairwise.nil
  | cons a r ih =>
    intro h
    refine List.pairwise_cons.2 ⟨fun b hb => ?_, ih fun t => ?_⟩
    · have h1 := h a.1
      rw [ofL_cons, if_pos rfl] at h1
      rintro ⟨e, h2⟩
      exact (List.pairwise_cons.1 h1).1 b (List.mem_filter.2 ⟨hb, by simp [e]⟩) ⟨e, h2⟩
    · have h1 := h t
      rw [ofL_cons] at h1
      split at h1
      · exact (List.pairwise_cons.1 h1).2
      · exact h1
theorem along_chk {d : List Op3} {o : List Int} (hc : (chk d).2 = 0) (hs : sortI o = dealsL d) : (chk (alongL d o)).2 = 0 := by
  obtain ⟨h1, h2, h3⟩ := (chk_iff d).1 hc
  have hr : ∀ x ∈ d, 1 ≤ x.1 ∧ x.1 ≤ 6 := fun x hx => isOp_tx (h2 x hx)
  have hr2 : ∀ x ∈ alongL d o, 1 ≤ x.1 ∧ x.1 ≤ 6 := fun x hx => hr x (along_mem.1 hx).1
  refine (chk_iff _).2 ⟨?_, fun x hx => h2 x (along_mem.1 hx).1, calm_of fun t => ?_⟩
  · rw [len_of_deals hr2 hr (along_deals hs)]; exact h1
  · rw [along_of (order_once hs)]
    split
    · exact h3.sublist List.filter_sublist
    · exact List.Pairwise.nil
theorem deal_in {d : List Op3} (hd : ∀ x ∈ d, 1 ≤ x.1 ∧ x.1 ≤ 6) {o : List Int} (hs : sortI o = dealsL d) {x : Op3} (hx : x ∈ d) : x ∈ alongL d o :=
  along_mem.2 ⟨hx, (order_mem hs).2 (mem_deals.2 ⟨(hd x hx).1, (hd x hx).2, hasB_iff.2 ⟨x, hx, rfl⟩⟩)⟩
theorem Doing.along {d : List Op3} (h : Doing d) (hc : (chk d).2 = 0) {o : List Int} (hs : sortI o = dealsL d) : Doing (alongL d o) where
  calm := ((chk_iff _).1 (along_chk hc hs)).2.2
  deal := fun x hx => h.deal x (along_mem.1 hx).1
  ends := fun x hx => by
    obtain ⟨p, hp, h1, h2⟩ := h.ends x (along_mem.1 hx).1
    exact ⟨p, deal_in h.deal hs hp, h1, h2⟩
theorem Doing.done {s : List Op3} (h : Doing s) : doneL s = s := by
  unfold doneL
  refine List.filter_eq_self.2 fun x hx => ?_
  obtain ⟨p, hp, h1, h2⟩ := h.ends x hx
  have := h.deal x hx
  unfold commIn
  exact List.any_eq_true.2 ⟨p, hp, by simp [h1, h2]; omega⟩
end Go.Proofs.YtmjjiehnjghndaaGreat
