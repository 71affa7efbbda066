/-
  PROVED HERE: plain facts, with no word of the program: the order that the program tells is that of all deals that are done, the least that could be next first.
  Conditions: none.
  PROVED HERE: plain facts, with no word of the program: where of two that are at odds the first one is of the lesser number, edges lead from lesser numbers to greater ones, and the order is that of the numbers.
  Conditions: none.
-/
import Derived.Test.YtppbplhpldoccafPiecesPlain
import Derived.Test.YtppbplhpldoccafStampPlain
namespace Go.Proofs.Ytppbplhpldoccaf

/-- The order that the program tells. -/
def serOrd (d : List Op3) : Option (List Int) := (orderL (edgesTo d 36)).map fun b => weaveL b ((dealsL d).filter fun x => !inB b x)
theorem edges_deals {d : List Op3} (hd : ∀ o ∈ d, 1 ≤ o.1 ∧ o.1 ≤ 6) {e : Edge2} (he : e ∈ edgesTo d 36) : e.1 ∈ dealsL d ∧ e.2 ∈ dealsL d := by
  have h1 := (List.mem_filter.1 he).2
  unfold leadsB at h1
  obtain ⟨p, hp, h2⟩ := List.any_eq_true.1 h1
  have h3 : edgeOf d p = e := by simpa using h2
  obtain ⟨i, j, hij, hj, _, rfl⟩ := mem_pairs.1 hp
  rw [← h3]
  unfold edgeOf
  simp only [Int.toNat_natCast]
  have m1 := opAt_mem (l := d) (i := i) (by omega)
  have m2 := opAt_mem (l := d) (i := j) hj
  exact ⟨mem_deals.2 ⟨(hd _ m1).1, (hd _ m1).2, hasB_iff.2 ⟨_, m1, rfl⟩⟩, mem_deals.2 ⟨(hd _ m2).1, (hd _ m2).2, hasB_iff.2 ⟨_, m2, rfl⟩⟩⟩
theorem serOrd_sort {d : List Op3} (hd : ∀ o ∈ d, 1 ≤ o.1 ∧ o.1 ≤ 6) : sortD (dealsL d) (edgesTo d 36) = serOrd d := by
  unfold serOrd
  refine sortD_weave (edges_right _ _) (dealsL_rise _) (fun x hx => ⟨(mem_deals.1 hx).1, (mem_deals.1 hx).2.1⟩) fun x hx => ?_
  obtain ⟨e, he, h2⟩ := (namedI_mem _ x).1 hx
  rcases h2 with rfl | rfl
  · exact (edges_deals hd he).1
  · exact (edges_deals hd he).2
end Go.Proofs.Ytppbplhpldoccaf

namespace Go.Proofs.Ytppbplhpldoccaf

/-- Of two at odds the first one is of the lesser number. -/
def Upward (d : List Op3) : Prop := d.Pairwise fun a b => oddB a b = true → a.1 < b.1
theorem up_edges {d : List Op3} (h : Upward d) {n : Nat} {e : Edge2} (he : e ∈ edgesTo d n) : e.1 < e.2 := by
  have h1 := (List.mem_filter.1 he).2
  unfold leadsB at h1
  obtain ⟨p, hp, h2⟩ := List.any_eq_true.1 h1
  have h3 : edgeOf d p = e := by simpa using h2
  obtain ⟨i, j, hij, hj, ho, rfl⟩ := mem_pairs.1 hp
  rw [← h3]
  unfold edgeOf
  simp only [Int.toNat_natCast]
  have hi : i < d.length := by omega
  have h4 := List.pairwise_iff_getElem.1 h i j hi hj hij
  have e1 : opAt d i = d[i] := by simp [opAt, List.getD, List.getElem?_eq_getElem hi]
  have e2 : opAt d j = d[j] := by simp [opAt, List.getD, List.getElem?_eq_getElem hj]
  rw [e1, e2] at ho ⊢
  exact h4 ho
theorem up_ord {l : List Edge2} (hl : ∀ e ∈ l, e.1 < e.2) (hr : ∀ e ∈ l, 1 ≤ e.1) :
    ∀ (qs : List Int) (s : Set7) (n : Nat), qs.Pairwise (· < ·) → (∀ x ∈ qs, 1 ≤ x ∧ x ≤ 6) → (∀ t : Nat, s t = true ↔ (t : Int) ∈ qs) → cntS s ≤ n → ordF l n s = some qs := by
  intro qs
  induction qs with
  | nil =>
    intro s n _ _ hs _
    refine ordF_end ?_ n
    cases ha : anyS s with
    | false => rfl
    | true =>
      obtain ⟨k, _, hk⟩ := List.any_eq_true.1 ha
      exact absurd ((hs k).1 hk) (by simp)
  | cons q qs ih =>
    intro s n hp hd hs hn
    have hq := hd q List.mem_cons_self
    obtain ⟨hq1, hq2⟩ := List.pairwise_cons.1 hp
    obtain ⟨t, rfl⟩ : ∃ t : Nat, q = (t : Int) := ⟨q.toNat, by omega⟩
    have hst : s t = true := (hs t).2 List.mem_cons_self
    have hfree : freeB l s t = true := by
      unfold freeB
      rw [hst, Bool.true_and, Bool.not_eq_true']
      refine List.any_eq_false.2 fun e he => ?_
      intro hh
      simp only [holdB, Bool.and_eq_true, beq_iff_eq] at hh
      have h1 := hl e he
      have h2 := hr e he
      have e3 := (hs _).1 hh.2
      rw [Int.toNat_of_nonneg (by omega)] at e3
      rcases List.mem_cons.1 e3 with e4 | e4
      · omega
      · have := hq1 _ e4; omega
    have hnx : nextN l s = t := by
      refine next_hit (by omega) (by omega) hfree fun j hj1 hj => ?_
      cases hf : freeB l s j with
      | false => rfl
      | true =>
        obtain ⟨h1, -⟩ := free_parts hf
        rcases List.mem_cons.1 ((hs j).1 h1) with e | e
        · omega
        · have := hq1 _ e; omega
    have h0 : nextN l s ≠ 0 := by omega
    have hc := cnt_next h0
    rw [ordF_on hn (any_true (by omega) hst) h0, hnx, ih (setS s t false) (n - 1) hq2 (fun x hx => hd x (List.mem_cons_of_mem _ hx)) (fun k => ?_) (by rw [hnx] at hc; omega)]
    · rfl
    · by_cases e : k = t
      · subst e
        rw [setS_same]
        exact ⟨fun h => (by cases h), fun h => absurd (hq1 _ h) (by omega)⟩
      · rw [setS_other s false e, hs k, List.mem_cons]
        exact ⟨fun h => h.resolve_left (by omega), .inr⟩
theorem up_order {d : List Op3} (h : Upward d) (hd : ∀ o ∈ d, 1 ≤ o.1 ∧ o.1 ≤ 6) : serOrd d = some (dealsL d) := by
  rw [← serOrd_sort hd]
  unfold sortD
  have hm : ∀ x ∈ dealsL d, 1 ≤ x ∧ x ≤ 6 := fun x hx => ⟨(mem_deals.1 hx).1, (mem_deals.1 hx).2.1⟩
  rw [orderGo_F, up_ord (fun e he => up_edges h he) (fun e he => (hm _ (edges_deals hd he).1).1) (dealsL d) _ 7 (dealsL_rise _) hm (fun t => ?_) (cnt_le _)]
  · rfl
  · unfold leftS
    rw [inB_not.2 (by simp : (t : Int) ∉ ([] : List Int)), Bool.not_false, Bool.and_true, inB_iff]
theorem stamp_up (leave : Bool) {l : List Op3} (h : (chk l).2 = 0) : Upward (doneL (stampR leave l).told) ∧ ∀ o ∈ doneL (stampR leave l).told, 1 ≤ o.1 ∧ o.1 ≤ 6 := by
  have h1 := stamp_all leave h
  exact ⟨h1.rise.sublist List.filter_sublist, fun o ho => isOp_range (h1.ops o (List.mem_filter.1 ho).1)⟩
end Go.Proofs.Ytppbplhpldoccaf
