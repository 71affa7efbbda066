/-
  PROVED HERE: plain facts on histories, with no word of the program: which lists are right; parts of a right list are right; what is done twice is what is done; the deals rise, and their ops are all the ops.
  Conditions: none.
  PROVED HERE: plain facts on lists, with no word of the program: the place of a deal's n-th op; the names of ops (an op, and which of its deal's ops it is); two lists have the same names just if they have the same ops of each deal, in the same order; and then an op's place is where its name stands.
  Conditions: none.
  PROVED HERE: a region that draws its order, whose own operations only read and whose callees may make new memory: one walk of the text's order serves every order, and what was there stays.
  Conditions: none.
-/
import Derived.Test.YtjaeaanpbdmfgabGreatDoorDeals
import Derived.Test.YtjaeaanpbdmfgabGreatDoorMgaf
import Derived.WalkKit
import Derived.WalkSpells
import Derived.Handy
import Derived.Deep.QuietTactic
import Derived.BigQuiet
import Derived.WalkSmall
import Derived.Deep.RegionLaw
import Derived.Laws.AppendOwn
namespace Go.Proofs.YtjaeaanpbdmfgabGreatDoor

/-- No op stands behind an end of its deal. -/
def Calm (l : List Op3) : Prop := l.Pairwise fun a b => ¬ (a.1 = b.1 ∧ endsB a.2.1 = true)
theorem endedIn_false {l : List Op3} {t : Int} : endedIn l t = false ↔ ∀ o ∈ l, ¬ (o.1 = t ∧ endsB o.2.1 = true) := by
  simp [endedIn]
theorem chkFrom_iff (l : List Op3) : ∀ pre, (chkFrom pre l).2 = 0 ↔ ((∀ o ∈ l, isOpB o = true) ∧ (∀ o ∈ l, endedIn pre o.1 = false) ∧ Calm l) := by
  induction l with
  | nil => intro pre; simp [chkFrom, Calm]
  | cons a r ih =>
    intro pre
    cases h1 : isOpB a with
    | false =>
      rw [chkFrom_bad1 pre r h1]
      simp [h1]
    | true =>
      cases h2 : endedIn pre a.1 with
      | true =>
        rw [chkFrom_bad2 r h1 h2]
        simp [h2]
      | false =>
        rw [chkFrom_go r h1 h2, ih]
        constructor
        · rintro ⟨k1, k2, k3⟩
          refine ⟨fun o ho => ?_, fun o ho => ?_, ?_⟩
          · rcases List.mem_cons.1 ho with rfl | ho
            · exact h1
            · exact k1 o ho
          · rcases List.mem_cons.1 ho with rfl | ho
            · exact h2
            · have := k2 o ho
              rw [endedIn_snoc] at this
              exact (Bool.or_eq_false_iff.1 this).1
          · refine List.pairwise_cons.2 ⟨fun b hb => ?_, k3⟩
            have := k2 b hb
            rw [endedIn_snoc] at this
            have h3 := (Bool.or_eq_false_iff.1 this).2
            rintro ⟨e1, e2⟩
            simp [e1, e2] at h3
        · rintro ⟨k1, k2, k3⟩
          obtain ⟨k4, k5⟩ := List.pairwise_cons.1 k3
          refine ⟨fun o ho => k1 o (List.mem_cons_of_mem _ ho), fun o ho => ?_, k5⟩
          rw [endedIn_snoc, k2 o (List.mem_cons_of_mem _ ho)]
          have := k4 o ho
          by_cases e1 : a.1 = o.1
          · cases e2 : endsB a.2.1 with
            | true => exact absurd ⟨e1, e2⟩ this
            | false => simp
          · simp [e1]
theorem chk_iff (l : List Op3) : (chk l).2 = 0 ↔ (l.length ≤ 40 ∧ (∀ o ∈ l, isOpB o = true) ∧ Calm l) := by
  constructor
  · intro h
    have hl := chk_len h
    rw [chk_short l hl, chkFrom_iff] at h
    exact ⟨hl, h.1, h.2.2⟩
  · rintro ⟨hl, h1, h2⟩
    rw [chk_short l hl, chkFrom_iff]
    exact ⟨h1, fun o _ => by simp [endedIn], h2⟩
theorem chk_sub {l m : List Op3} (h : (chk l).2 = 0) (hs : m.Sublist l) : (chk m).2 = 0 := by
  rw [chk_iff] at h ⊢
  exact ⟨Nat.le_trans hs.length_le h.1, fun o ho => h.2.1 o (hs.subset ho), h.2.2.sublist hs⟩
theorem chk_done {l : List Op3} (h : (chk l).2 = 0) : (chk (doneL l)).2 = 0 := chk_sub h (List.filter_sublist ..)
theorem chk_take {l : List Op3} (h : (chk l).2 = 0) (k : Nat) : (chk (l.take k)).2 = 0 := chk_sub h (List.take_sublist ..)

theorem commIn_done (l : List Op3) (t : Nat) : commIn (doneL l) t = commIn l t := by
  rw [Bool.eq_iff_iff]
  simp only [commIn, List.any_eq_true, doneL, List.mem_filter, Bool.and_eq_true, beq_iff_eq]
  constructor
  · rintro ⟨o, ⟨h1, _⟩, h2⟩
    exact ⟨o, h1, h2⟩
  · rintro ⟨o, h1, h2⟩
    refine ⟨o, ⟨h1, o, h1, ?_, h2.2⟩, h2⟩
    rw [h2.1]; simp
theorem done_done (l : List Op3) : doneL (doneL l) = doneL l := by
  have e : doneL (doneL l) = (doneL l).filter fun o => commIn l o.1.toNat := by
    unfold doneL
    apply List.filter_congr
    intro o _
    exact commIn_done l o.1.toNat
  rw [e]
  unfold doneL
  rw [List.filter_filter]
  simp

/-! ### Deals -/
theorem dealsTo_mem (l : List Op3) (n : Nat) : ∀ t ∈ dealsTo l n, 1 ≤ t ∧ t ≤ n ∧ hasB l t = true := by
  induction n with
  | zero => intro t ht; simp [dealsTo] at ht
  | succ n ih =>
    intro t ht
    simp only [dealsTo, List.mem_append] at ht
    rcases ht with ht | ht
    · have := ih t ht; exact ⟨this.1, by omega, this.2.2⟩
    · cases hb : hasB l ((n : Int) + 1) with
      | true => rw [hb, if_pos rfl] at ht; simp at ht; subst ht; exact ⟨by omega, by omega, hb⟩
      | false => rw [hb] at ht; simp at ht
theorem dealsTo_rise (l : List Op3) (n : Nat) : (dealsTo l n).Pairwise (· < ·) := by
  induction n with
  | zero => simp [dealsTo]
  | succ n ih =>
    simp only [dealsTo]
    refine List.pairwise_append.2 ⟨ih, ?_, fun a ha b hb => ?_⟩
    · split <;> simp
    · have h1 := (dealsTo_mem l n a ha).2.1
      split at hb
      · simp at hb; omega
      · simp at hb
def sumL (l : List Op3) (ts : List Int) : Nat := (ts.map fun t => (ofL l t).length).sum
theorem sumL_append (l : List Op3) (a b : List Int) : sumL l (a ++ b) = sumL l a + sumL l b := by simp [sumL]
theorem of_none {l : List Op3} {t : Int} (h : hasB l t = false) : (ofL l t).length = 0 := by
  simp [hasB] at h
  simp only [ofL]
  rw [List.length_eq_zero_iff, List.filter_eq_nil_iff]
  intro o ho
  have := h o.1 o.2.1 o.2.2 ho
  simpa using this
theorem of_some {l : List Op3} {t : Int} (h : hasB l t = true) : 0 < (ofL l t).length := by
  simp only [hasB, List.any_eq_true] at h
  obtain ⟨o, ho, he⟩ := h
  exact List.length_pos_of_mem (List.mem_filter.2 ⟨ho, he⟩)
theorem sum_to (l : List Op3) (h1 : ∀ o ∈ l, 1 ≤ o.1) (n : Nat) : sumL l (dealsTo l n) = (l.filter fun o => decide (o.1 ≤ (n : Int))).length := by
  induction n with
  | zero =>
    simp only [dealsTo, sumL, List.map_nil, List.sum_nil]
    symm
    rw [List.length_eq_zero_iff, List.filter_eq_nil_iff]
    intro o ho
    have := h1 o ho
    simp; omega
  | succ n ih =>
    have split : (l.filter fun o => decide (o.1 ≤ ((n + 1 : Nat) : Int))).length = (l.filter fun o => decide (o.1 ≤ (n : Int))).length + (ofL l ((n : Int) + 1)).length := by
      clear ih h1
      induction l with
      | nil => rfl
      | cons o r ih =>
        simp only [ofL] at ih ⊢
        by_cases e1 : o.1 ≤ (n : Int)
        · have e2 : o.1 ≤ ((n + 1 : Nat) : Int) := by omega
          have e3 : (o.1 == (n : Int) + 1) = false := by simp; omega
          simp only [List.filter_cons, e1, e2, e3, decide_true, if_true, List.length_cons]
          rw [ih]; simp; omega
        · by_cases e4 : o.1 = (n : Int) + 1
          · have e2 : o.1 ≤ ((n + 1 : Nat) : Int) := by omega
            have e3 : (o.1 == (n : Int) + 1) = true := by simp [e4]
            simp only [List.filter_cons, e1, e2, e3, decide_true, decide_false, if_true, List.length_cons]
            rw [ih]; simp; omega
          · have e2 : ¬ o.1 ≤ ((n + 1 : Nat) : Int) := by omega
            have e3 : (o.1 == (n : Int) + 1) = false := by simp [e4]
            simp only [List.filter_cons, e1, e2, e3, decide_false]
            simpa using ih
    rw [split]
    simp only [dealsTo]
    rw [sumL_append, ih]
    cases hb : hasB l ((n : Int) + 1) with
    | true => simp [sumL]
    | false => rw [of_none hb]; simp [sumL]
theorem sum_all {l : List Op3} (h : (chk l).2 = 0) : sumL l (dealsL l) = l.length := by
  have ho := chk_ops h
  unfold dealsL
  rw [sum_to l (fun o hm => (isOp_tx (ho o hm)).1) 6, List.filter_eq_self.2]
  intro o hm
  have := (isOp_tx (ho o hm)).2
  simp; omega
theorem sum_take_le {l : List Op3} (h : (chk l).2 = 0) (k : Nat) : sumL l ((dealsL l).take k) ≤ 40 := by
  have h1 := sum_all h
  have h2 := chk_len h
  have h3 : sumL l (dealsL l) = sumL l ((dealsL l).take k) + sumL l ((dealsL l).drop k) := by
    rw [← sumL_append, List.take_append_drop]
  omega
end Go.Proofs.YtjaeaanpbdmfgabGreatDoor

namespace Go.Proofs.YtjaeaanpbdmfgabGreatDoor

/-- The place of a deal's n-th op. -/
def placeOf : List Op3 → Int → Nat → Option Nat
  | [], _, _ => none
  | o :: r, t, n => if o.1 = t then (if n = 0 then some 0 else (placeOf r t (n - 1)).map (· + 1)) else (placeOf r t n).map (· + 1)
/-- Which of its deal's ops an op is. -/
def nthAt (l : List Op3) (i : Nat) : Nat := (ofL (l.take i) (opAt l i).1).length
def nameAt (l : List Op3) (i : Nat) : Op3 × Nat := (opAt l i, nthAt l i)
theorem opAt_cons (o : Op3) (r : List Op3) (i : Nat) : opAt (o :: r) (i + 1) = opAt r i := by simp [opAt]
theorem ofL_cons (o : Op3) (r : List Op3) (t : Int) : ofL (o :: r) t = if o.1 = t then o :: ofL r t else ofL r t := by
  unfold ofL
  rw [List.filter_cons]
  by_cases h : o.1 = t <;> simp [h]
theorem placeOf_some : ∀ (l : List Op3) (t : Int) (n k : Nat), placeOf l t n = some k → k < l.length ∧ (opAt l k).1 = t ∧ (ofL (l.take k) t).length = n := by
  intro l
  induction l with
  | nil => intro t n k h; simp [placeOf] at h
  | cons o r ih =>
    intro t n k h
    simp only [placeOf] at h
    split at h
    · rename_i h1
      split at h
      · rename_i h2
        simp at h
        subst h h2
        exact ⟨by simp, by simpa [opAt] using h1, by simp [ofL]⟩
      · rename_i h2
        obtain ⟨k', hk, rfl⟩ := Option.map_eq_some_iff.1 h
        obtain ⟨i1, i2, i3⟩ := ih t (n - 1) k' hk
        refine ⟨by simpa using i1, by rw [opAt_cons]; exact i2, ?_⟩
        rw [List.take_succ_cons, ofL_cons, if_pos h1, List.length_cons, i3]
        omega
    · rename_i h1
      obtain ⟨k', hk, rfl⟩ := Option.map_eq_some_iff.1 h
      obtain ⟨i1, i2, i3⟩ := ih t n k' hk
      refine ⟨by simpa using i1, by rw [opAt_cons]; exact i2, ?_⟩
      rw [List.take_succ_cons, ofL_cons, if_neg h1, i3]
theorem placeOf_at : ∀ (l : List Op3) (k : Nat), k < l.length → placeOf l (opAt l k).1 (nthAt l k) = some k := by
  intro l
  induction l with
  | nil => intro k h; simp at h
  | cons o r ih =>
    intro k h
    cases k with
    | zero => simp [placeOf, opAt, nthAt, ofL]
    | succ k =>
      have hk : k < r.length := by simpa using h
      have h1 := ih k hk
      unfold nthAt at h1 ⊢
      rw [opAt_cons, List.take_succ_cons, ofL_cons]
      simp only [placeOf]
      by_cases ho : o.1 = (opAt r k).1
      · rw [if_pos ho, if_pos ho, List.length_cons, if_neg (by omega), Nat.add_sub_cancel, h1]; rfl
      · rw [if_neg ho, if_neg ho, h1]; rfl
theorem name_inj {l : List Op3} {i k : Nat} (hi : i < l.length) (hk : k < l.length) (h : nameAt l i = nameAt l k) : i = k := by
  have h1 := placeOf_at l i hi
  have h2 := placeOf_at l k hk
  unfold nameAt at h
  simp only [Prod.mk.injEq] at h
  rw [h.1, h.2, h2] at h1
  exact (Option.some.inj h1).symm
theorem place_name {h g : List Op3} {i k : Nat} (hk : k < g.length) (hn : nameAt g k = nameAt h i) : placeOf g (opAt h i).1 (nthAt h i) = some k := by
  unfold nameAt at hn
  simp only [Prod.mk.injEq] at hn
  rw [← hn.1, ← hn.2]
  exact placeOf_at g k hk
theorem split_at {l : List Op3} {i : Nat} (hi : i < l.length) : l = l.take i ++ opAt l i :: l.drop (i + 1) := by
  have h : l[i] :: l.drop (i + 1) = l.drop i := (List.drop_eq_getElem_cons hi).symm
  have e : opAt l i = l[i] := by simp [opAt, List.getD, List.getElem?_eq_getElem hi]
  rw [e, h, List.take_append_drop]
theorem ofL_append (l m : List Op3) (t : Int) : ofL (l ++ m) t = ofL l t ++ ofL m t := by simp [ofL]
theorem of_nth {l : List Op3} {i : Nat} (hi : i < l.length) : (ofL l (opAt l i).1)[nthAt l i]? = some (opAt l i) := by
  have h := split_at hi
  generalize ho : opAt l i = o at h
  have hn : nthAt l i = (ofL (l.take i) o.1).length := by unfold nthAt; rw [ho]
  have e : ofL l o.1 = ofL (l.take i) o.1 ++ (o :: ofL (l.drop (i + 1)) o.1) := (congrArg (fun m => ofL m o.1) h).trans (by rw [ofL_append, ofL_cons, if_pos rfl])
  rw [hn, e, List.getElem?_append_right (Nat.le_refl _), Nat.sub_self]
  rfl
theorem nth_some : ∀ (l : List Op3) (t : Int) (n : Nat) (o : Op3), (ofL l t)[n]? = some o → ∃ k, k < l.length ∧ opAt l k = o ∧ nthAt l k = n := by
  intro l
  induction l with
  | nil => intro t n o h; simp [ofL] at h
  | cons a r ih =>
    intro t n o h
    rw [ofL_cons] at h
    by_cases ha : a.1 = t
    · rw [if_pos ha] at h
      cases n with
      | zero =>
        simp at h
        subst h
        exact ⟨0, by simp, by simp [opAt], by simp [nthAt, ofL]⟩
      | succ n =>
        obtain ⟨k, h1, h2, h3⟩ := ih t n o (by simpa using h)
        have ho : o.1 = t := by
          have hm := List.mem_of_getElem? (show (ofL r t)[n]? = some o by simpa using h)
          simpa [ofL] using (List.mem_filter.1 hm).2
        refine ⟨k + 1, by simpa using h1, by rw [opAt_cons]; exact h2, ?_⟩
        unfold nthAt at h3 ⊢
        rw [opAt_cons, List.take_succ_cons, ofL_cons, h2, if_pos (by rw [ho]; exact ha), List.length_cons, ← h3, h2]
    · rw [if_neg ha] at h
      obtain ⟨k, h1, h2, h3⟩ := ih t n o h
      have ho : o.1 = t := by
        have hm := List.mem_of_getElem? h
        simpa [ofL] using (List.mem_filter.1 hm).2
      refine ⟨k + 1, by simpa using h1, by rw [opAt_cons]; exact h2, ?_⟩
      unfold nthAt at h3 ⊢
      rw [opAt_cons, List.take_succ_cons, ofL_cons, h2, if_neg (by rw [ho]; exact ha), ← h3, h2]
/-- All names of the one are names of the other. -/
def Named (h g : List Op3) : Prop := ∀ i, i < h.length → ∃ k, k < g.length ∧ nameAt g k = nameAt h i
def dealsEq (h g : List Op3) : Prop := ∀ t : Int, 1 ≤ t → t ≤ 6 → ofL h t = ofL g t
theorem sum_six (l : List Op3) (hl : ∀ o ∈ l, 1 ≤ o.1 ∧ o.1 ≤ 6) : l.length = (ofL l 1).length + (ofL l 2).length + (ofL l 3).length + (ofL l 4).length + (ofL l 5).length + (ofL l 6).length := by
  induction l with
  | nil => rfl
  | cons o r ih =>
    have ho := hl o (List.mem_cons_self ..)
    have ih' := ih fun p hp => hl p (List.mem_cons_of_mem _ hp)
    simp only [ofL_cons, List.length_cons]
    rcases (show o.1 = 1 ∨ o.1 = 2 ∨ o.1 = 3 ∨ o.1 = 4 ∨ o.1 = 5 ∨ o.1 = 6 by omega) with e | e | e | e | e | e <;> rw [e] <;> simp <;> omega
theorem named_of_deals {h g : List Op3} (hh : ∀ o ∈ h, 1 ≤ o.1 ∧ o.1 ≤ 6) (hd : dealsEq h g) : Named h g := by
  intro i hi
  have h1 := of_nth hi
  have hb := hh _ (opAt_mem hi)
  rw [hd _ hb.1 hb.2] at h1
  obtain ⟨k, k1, k2, k3⟩ := nth_some g _ _ _ h1
  exact ⟨k, k1, by unfold nameAt; rw [k2, k3]⟩
theorem len_of_deals {h g : List Op3} (hh : ∀ o ∈ h, 1 ≤ o.1 ∧ o.1 ≤ 6) (hg : ∀ o ∈ g, 1 ≤ o.1 ∧ o.1 ≤ 6) (hd : dealsEq h g) : h.length = g.length := by
  rw [sum_six h hh, sum_six g hg, hd 1 (by omega) (by omega), hd 2 (by omega) (by omega), hd 3 (by omega) (by omega), hd 4 (by omega) (by omega), hd 5 (by omega) (by omega), hd 6 (by omega) (by omega)]
theorem named_nth {h g : List Op3} (hn : Named h g) (t : Int) (n : Nat) (o : Op3) (he : (ofL h t)[n]? = some o) : (ofL g t)[n]? = some o := by
  obtain ⟨i, i1, i2, i3⟩ := nth_some h t n o he
  obtain ⟨k, k1, k2⟩ := hn i i1
  have ht : o.1 = t := by
    have hm := List.mem_of_getElem? he
    simpa [ofL] using (List.mem_filter.1 hm).2
  unfold nameAt at k2
  simp only [Prod.mk.injEq] at k2
  have h1 := of_nth k1
  rw [k2.1, k2.2, i2, i3, ht] at h1
  exact h1
theorem named_len {h g : List Op3} (hn : Named h g) (t : Int) : (ofL h t).length ≤ (ofL g t).length := by
  rcases Nat.eq_zero_or_pos (ofL h t).length with h0 | h0
  · omega
  · have hlt : (ofL h t).length - 1 < (ofL h t).length := by omega
    have h1 := named_nth hn t _ _ (List.getElem?_eq_getElem hlt)
    have := (List.getElem?_eq_some_iff.1 h1).1
    omega
theorem deals_of_named {h g : List Op3} (hh : ∀ o ∈ h, 1 ≤ o.1 ∧ o.1 ≤ 6) (hg : ∀ o ∈ g, 1 ≤ o.1 ∧ o.1 ≤ 6) (hl : h.length = g.length) (hn : Named h g) : dealsEq h g := by
  rw [sum_six h hh, sum_six g hg] at hl
  have n1 := named_len hn 1
  have n2 := named_len hn 2
  have n3 := named_len hn 3
  have n4 := named_len hn 4
  have n5 := named_len hn 5
  have n6 := named_len hn 6
  intro t h1 h6
  have hlen : (ofL h t).length = (ofL g t).length := by
    rcases (show t = 1 ∨ t = 2 ∨ t = 3 ∨ t = 4 ∨ t = 5 ∨ t = 6 by omega) with e | e | e | e | e | e <;> subst e <;> omega
  refine List.ext_getElem? fun n => ?_
  by_cases hlt : n < (ofL h t).length
  · rw [List.getElem?_eq_getElem hlt]
    exact (named_nth hn t n _ (List.getElem?_eq_getElem hlt)).symm
  · rw [List.getElem?_eq_none (by omega), List.getElem?_eq_none (by omega)]
/-- Where an op of the one stands in the other; 0 if nowhere. -/
def spot (h g : List Op3) (i : Nat) : Nat := (placeOf g (opAt h i).1 (nthAt h i)).getD 0
/-- The plain answer: the same but for what may change places. -/
def turnedB (h g : List Op3) (p : Edge2) : Bool := decide (spot h g p.2.toNat < spot h g p.1.toNat)
end Go.Proofs.YtjaeaanpbdmfgabGreatDoor

namespace Go.Proofs.YtjaeaanpbdmfgabGreatDoor
open Go.RowKit

/-- A world in which all that is old is as it was. -/
structure Later (B : Nat) (w : World) where
  W : World
  h : Below B w W
theorem region_later {P : Program} {id : Nat} {Q : Exit → Act → World → Prop} {a : Act} {w : World} {l : List Oper} (B : Nat) (hm : P.follows .mixedOrders = true) (hB : Region.lexB .any l.toArray = true)
    (h : wpQuiet P l.toArray (fun w' => ∃ x : Later B w, w' = x.W) (fun a' => ∀ w', (∃ x : Later B w, w' = x.W) → Q .normal a' w') l a) : (Code.region id l.toArray true).wp P Q a w :=
  wp_region_quiet (C := fun w' => ∃ x : Later B w, w' = x.W) hm hB ⟨⟨w.drew, (Below.refl B w).drew⟩, rfl⟩ (by simpa using h)
/-- What a callee's contract must say there. -/
theorem Later.call {P : Program} {f : FuncId} {args : Array Value} {B : Nat} {w : World} {v : Value} (x : Later B w)
    (h : Calls P f args x.W fun e w' => e = .returned v ∧ Below B x.W w') : Calls P f args x.W fun e w' => e = .returned v ∧ ∃ y : Later B w, w' = y.W :=
  h.mono fun _ w' ⟨he, hb⟩ => ⟨he, ⟨w', x.h.trans hb⟩, rfl⟩
theorem Later.at {P : Program} {f : FuncId} {args : Array Value} {B : Nat} {w : World} {v : Value} (x : Later B w) (hB : B ≤ w.heap.size)
    (h : Calls P f args x.W fun e w' => e = .returned v ∧ Below x.W.heap.size x.W w') : Calls P f args x.W fun e w' => e = .returned v ∧ ∃ y : Later B w, w' = y.W :=
  h.mono fun _ w' ⟨he, hb⟩ => ⟨he, ⟨w', x.h.trans (hb.mono (Nat.le_trans hB x.h.size))⟩, rfl⟩
/-- append on a row of one's own, as one step of a region that draws. -/
theorem step_append_own {P : Program} {ops : Array Oper} {o : Oper} {a : Act} {w : World} {K : Act → World → Prop} {Q : Exit → Act → World → Prop} {E : Prop}
    (hgd : o.guard = none) (s x : Operand) (t : TypeId) (ho : o.op = .call { callee := .builtin .append, args := #[s, x], argTypes := #[t, t] })
    (base : Nat) (e : TypeId) (i : TypeInfo) (z : Value) (size bytes : Nat) (ht : P.underlying t = some (.slice e)) (hi : P.info? e = some i) (hz : i.zero = some z)
    (hsize : i.size = size) (hby : i.bytes = bytes) (hzs : z.cells.size = size) (hsz : 0 < size)
    (v : Value) (n : Nat) (xs : List Value) (hs : a.eval s = v) (hown : w.ownsRow base e size v n xs)
    (ad : Addr) (m c : Nat) (news : List Value) (hx : a.eval x = .slice (some ad) m c) (hl : news.length = m * size) (hnews : ∀ j u, news[j]? = some u → w.cell? (ad.add j) = some u) (h1 : ∀ u ∈ news, u.oneCell' = true)
    (h63 : n + m ≤ maxLen) (hbytes : (n + m) * bytes ≤ 140737488355328) (hbase : base ≤ w.heap.size)
    (h : ∀ v' w', w'.ownsRow base e size v' (n + m) (xs ++ news) → w.grownBy w' v.ownBlock → (v' = .slice none 0 0 ↔ v = .slice none 0 0 ∧ m = 0) → K (a.put o.dst v') w') :
    if Region.wanted o (yielded ops a.tmps) = true then Oper.wp P o a w K Q else E := by
  have hw : Region.wanted o (yielded ops a.tmps) = true := by simp [Region.wanted, hgd]
  rw [if_pos hw]
  exact wp_append_own w s x t ho base e i z size bytes ht hi hz hsize hby hzs hsz v n xs hs hown ad m c news hx hl hnews h1 h63 hbytes hbase h
end Go.Proofs.YtjaeaanpbdmfgabGreatDoor
