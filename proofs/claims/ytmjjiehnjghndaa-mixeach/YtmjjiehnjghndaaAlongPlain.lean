/-
  PROVED HERE: plain facts, with no word of the program: what is done, deal by deal along an order of its deals, is right, done, and has the same ops of each deal.
  Conditions: none.
-/
import Derived.Test.YtmjjiehnjghndaaRunsPlain
import Derived.Test.YtmjjiehnjghndaaOddSame
namespace Go.Proofs.Ytmjjiehnjghndaa

theorem along_cons (d : List Op3) (t : Int) (o : List Int) : alongL d (t :: o) = ofL d t ++ alongL d o := by simp [alongL]
theorem along_mem {d : List Op3} {o : List Int} {x : Op3} : x ∈ alongL d o ↔ x ∈ d ∧ x.1 ∈ o := by
  unfold alongL ofL
  simp only [List.mem_flatMap, List.mem_filter, beq_iff_eq]
  constructor
  · rintro ⟨t, ht, hx, rfl⟩; exact ⟨hx, ht⟩
  · rintro ⟨hx, ht⟩; exact ⟨_, ht, hx, rfl⟩
theorem ofL_ofL (d : List Op3) (u t : Int) : ofL (ofL d u) t = if u = t then ofL d t else [] := by
  unfold ofL
  rw [List.filter_filter]
  split
  · rename_i h
    subst h
    simp
  · rename_i h
    rw [List.filter_eq_nil_iff]
    intro a _ h2
    simp at h2
    exact h (h2.2.symm.trans h2.1)
theorem along_of {d : List Op3} {t : Int} : ∀ {o : List Int}, o.Nodup → ofL (alongL d o) t = if t ∈ o then ofL d t else [] := by
  intro o
  induction o with
  | nil => intro _; rfl
  | cons u o ih =>
    intro hn
    obtain ⟨h1, h2⟩ := List.nodup_cons.1 hn
    rw [along_cons, ofL_append, ofL_ofL, ih h2]
    by_cases e : u = t
    · subst e
      rw [if_pos rfl, if_neg h1, if_pos (List.mem_cons_self ..), List.append_nil]
    · rw [if_neg e, List.nil_append]
      by_cases h3 : t ∈ o
      · rw [if_pos h3, if_pos (List.mem_cons_of_mem _ h3)]
      · rw [if_neg h3, if_neg fun h => ?_]
        rcases List.mem_cons.1 h with h | h
        · exact e h.symm
        · exact h3 h
theorem order_once {d : List Op3} {o : List Int} (hs : sortI o = dealsL d) : o.Nodup := (sort_perm hs).nodup_iff.2 (rise_nodup (dealsL_rise _))
theorem order_mem {d : List Op3} {o : List Int} (hs : sortI o = dealsL d) {t : Int} : t ∈ o ↔ t ∈ dealsL d := (sort_perm hs).mem_iff
theorem along_deals {d : List Op3} {o : List Int} (hs : sortI o = dealsL d) : dealsEq (alongL d o) d := fun t h1 h6 => by
  rw [along_of (order_once hs)]
  split
  · rfl
  · rename_i h
    have h2 : hasB d t = false := by
      cases h3 : hasB d t with
      | false => rfl
      | true => exact absurd ((order_mem hs).2 (mem_deals.2 ⟨h1, h6, h3⟩)) h
    exact (List.length_eq_zero_iff.1 (of_none h2)).symm
theorem calm_of : ∀ {l : List Op3}, (∀ t, Calm (ofL l t)) → Calm l := by
  intro l
  induction l with
  | nil => intro _; exact List.Pairwise.nil
  | cons a r ih =>
    intro h
    refine List.pairwise_cons.2 ⟨fun b hb => ?_, ih fun t => ?_⟩
    · have h1 := h a.1
      rw [ofL_cons, if_pos rfl] at h1
      rintro ⟨e, h2⟩
      exact (List.pairwise_cons.1 h1).1 b (List.mem_filter.2 ⟨hb, by simp [e]⟩) ⟨e, h2⟩
    · have h1 := h t
      rw [ofL_cons] at h1
      split at h1
      · exact (List.pairwise_cons.1 h1).2
      · exact h1
theorem along_chk {d : List Op3} {o : List Int} (hc : (chk d).2 = 0) (hs : sortI o = dealsL d) : (chk (alongL d o)).2 = 0 := by
  obtain ⟨h1, h2, h3⟩ := (chk_iff d).1 hc
  have hr : ∀ x ∈ d, 1 ≤ x.1 ∧ x.1 ≤ 6 := fun x hx => isOp_tx (h2 x hx)
  have hr2 : ∀ x ∈ alongL d o, 1 ≤ x.1 ∧ x.1 ≤ 6 := fun x hx => hr x (along_mem.1 hx).1
  refine (chk_iff _).2 ⟨?_, fun x hx => h2 x (along_mem.1 hx).1, calm_of fun t => ?_⟩
  · rw [len_of_deals hr2 hr (along_deals hs)]; exact h1
  · rw [along_of (order_once hs)]
    split
    · exact h3.sublist List.filter_sublist
    · exact List.Pairwise.nil
theorem deal_in {d : List Op3} (hd : ∀ x ∈ d, 1 ≤ x.1 ∧ x.1 ≤ 6) {o : List Int} (hs : sortI o = dealsL d) {x : Op3} (hx : x ∈ d) : x ∈ alongL d o :=
  along_mem.2 ⟨hx, (order_mem hs).2 (mem_deals.2 ⟨(hd x hx).1, (hd x hx).2, hasB_iff.2 ⟨x, hx, rfl⟩⟩)⟩
theorem Doing.along {d : List Op3} (h : Doing d) (hc : (chk d).2 = 0) {o : List Int} (hs : sortI o = dealsL d) : Doing (alongL d o) where
  calm := ((chk_iff _).1 (along_chk hc hs)).2.2
  deal := fun x hx => h.deal x (along_mem.1 hx).1
  ends := fun x hx => by
    obtain ⟨p, hp, h1, h2⟩ := h.ends x (along_mem.1 hx).1
    exact ⟨p, deal_in h.deal hs hp, h1, h2⟩
theorem Doing.done {s : List Op3} (h : Doing s) : doneL s = s := by
  unfold doneL
  refine List.filter_eq_self.2 fun x hx => ?_
  obtain ⟨p, hp, h1, h2⟩ := h.ends x hx
  have := h.deal x hx
  unfold commIn
  exact List.any_eq_true.2 ⟨p, hp, by simp [h1, h2]; omega⟩
end Go.Proofs.Ytmjjiehnjghndaa
