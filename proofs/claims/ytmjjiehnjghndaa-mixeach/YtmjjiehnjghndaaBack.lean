/-
  PROVED HERE: plain facts on histories, with no word of the program: which lists are right; parts of a right list are right; what is done twice is what is done; the deals rise, and their ops are all the ops.
  Conditions: none.
  (Of these, what the claim wants: the rest was left out.)
-/
import Derived.Test.YtmjjiehnjghndaaDeals
namespace Go.Proofs.Ytmjjiehnjghndaa

/-- No op stands behind an end of its deal. -/
def Calm (l : List Op3) : Prop := l.Pairwise fun a b => ¬ (a.1 = b.1 ∧ endsB a.2.1 = true)
theorem chkFrom_iff (l : List Op3) : ∀ pre, (chkFrom pre l).2 = 0 ↔ ((∀ o ∈ l, isOpB o = true) ∧ (∀ o ∈ l, endedIn pre o.1 = false) ∧ Calm l) := by
  induction l with
  | nil => intro pre; simp [chkFrom, Calm]
  | cons a r ih =>
    intro pre
    cases h1 : isOpB a with
    | false =>
      rw [chkFrom_bad1 pre r h1]
      simp [h1]
    | true =>
      cases h2 : endedIn pre a.1 with
      | true =>
        rw [chkFrom_bad2 r h1 h2]
        simp [h2]
      | false =>
        rw [chkFrom_go r h1 h2, ih]
        constructor
        · rintro ⟨k1, k2, k3⟩
          refine ⟨fun o ho => ?_, fun o ho => ?_, ?_⟩
          · rcases List.mem_cons.1 ho with rfl | ho
            · exact h1
            · exact k1 o ho
          · rcases List.mem_cons.1 ho with rfl | ho
            · exact h2
            · have := k2 o ho
              rw [endedIn_snoc] at this
              exact (Bool.or_eq_false_iff.1 this).1
          · refine List.pairwise_cons.2 ⟨fun b hb => ?_, k3⟩
            have := k2 b hb
            rw [endedIn_snoc] at this
            have h3 := (Bool.or_eq_false_iff.1 this).2
            rintro ⟨e1, e2⟩
            simp [e1, e2] at h3
        · rintro ⟨k1, k2, k3⟩
          obtain ⟨k4, k5⟩ := List.pairwise_cons.1 k3
          refine ⟨fun o ho => k1 o (List.mem_cons_of_mem _ ho), fun o ho => ?_, k5⟩
          rw [endedIn_snoc, k2 o (List.mem_cons_of_mem _ ho)]
          have := k4 o ho
          by_cases e1 : a.1 = o.1
          · cases e2 : endsB a.2.1 with
            | true => exact absurd ⟨e1, e2⟩ this
            | false => simp
          · simp [e1]
theorem chk_iff (l : List Op3) : (chk l).2 = 0 ↔ (l.length ≤ 40 ∧ (∀ o ∈ l, isOpB o = true) ∧ Calm l) := by
  constructor
  · intro h
    have hl := chk_len h
    rw [chk_short l hl, chkFrom_iff] at h
    exact ⟨hl, h.1, h.2.2⟩
  · rintro ⟨hl, h1, h2⟩
    rw [chk_short l hl, chkFrom_iff]
    exact ⟨h1, fun o _ => by simp [endedIn], h2⟩
theorem chk_sub {l m : List Op3} (h : (chk l).2 = 0) (hs : m.Sublist l) : (chk m).2 = 0 := by
  rw [chk_iff] at h ⊢
  exact ⟨Nat.le_trans hs.length_le h.1, fun o ho => h.2.1 o (hs.subset ho), h.2.2.sublist hs⟩
theorem chk_done {l : List Op3} (h : (chk l).2 = 0) : (chk (doneL l)).2 = 0 := chk_sub h (List.filter_sublist ..)
/-! ### Deals -/
theorem dealsTo_mem (l : List Op3) (n : Nat) : ∀ t ∈ dealsTo l n, 1 ≤ t ∧ t ≤ n ∧ hasB l t = true := by
  induction n with
  | zero => intro t ht; simp [dealsTo] at ht
  | succ n ih =>
    intro t ht
    simp only [dealsTo, List.mem_append] at ht
    rcases ht with ht | ht
    · have := ih t ht; exact ⟨this.1, by omega, this.2.2⟩
    · cases hb : hasB l ((n : Int) + 1) with
      | true => rw [hb, if_pos rfl] at ht; simp at ht; subst ht; exact ⟨by omega, by omega, hb⟩
      | false => rw [hb] at ht; simp at ht
theorem dealsTo_rise (l : List Op3) (n : Nat) : (dealsTo l n).Pairwise (· < ·) := by
  induction n with
  | zero => simp [dealsTo]
  | succ n ih =>
    simp only [dealsTo]
    refine List.pairwise_append.2 ⟨ih, ?_, fun a ha b hb => ?_⟩
    · split <;> simp
    · have h1 := (dealsTo_mem l n a ha).2.1
      split at hb
      · simp at hb; omega
      · simp at hb
theorem of_none {l : List Op3} {t : Int} (h : hasB l t = false) : (ofL l t).length = 0 := by
  simp [hasB] at h
  simp only [ofL]
  rw [List.length_eq_zero_iff, List.filter_eq_nil_iff]
  intro o ho
  have := h o.1 o.2.1 o.2.2 ho
  simpa using this
end Go.Proofs.Ytmjjiehnjghndaa
