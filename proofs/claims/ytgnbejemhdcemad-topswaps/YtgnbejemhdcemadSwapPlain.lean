/-
  PROVED HERE: plain facts, with no word of the program: with two neighbours changed that are of unlike deals and not at odds a right list is right, the same but for what may change places, has the same edges, and changed back it is itself.
  Conditions: none.
-/
import Derived.Test.YtgnbejemhdcemadJustPlain
import Derived.Test.YtgnbejemhdcemadOddSwap
namespace Go.Proofs.Ytgnbejemhdcemad

theorem swap_split {l : List Op3} {i : Nat} (h : i + 1 < l.length) : l = l.take i ++ opAt l i :: opAt l (i + 1) :: l.drop (i + 2) ∧ swapL l i = l.take i ++ opAt l (i + 1) :: opAt l i :: l.drop (i + 2) := by
  have e : l = l.take i ++ opAt l i :: opAt l (i + 1) :: l.drop (i + 2) := by
    have h1 := split_at (l := l) (i := i) (by omega)
    have h2 : l.drop (i + 1) = opAt l (i + 1) :: l.drop (i + 2) := by
      rw [List.drop_eq_getElem_cons h, opAt_get h]
    rw [h2] at h1
    exact h1
  refine ⟨e, ?_⟩
  have hl : (l.take i).length = i := by rw [List.length_take]; omega
  have gen : ∀ (A B : List Op3) (x y : Op3), A.length = i → (((A ++ x :: y :: B).set i y).set (i + 1) x) = A ++ y :: x :: B := by
    intro A B x y hA
    rw [List.set_append_right _ _ (by omega), List.set_append_right _ _ (by omega), hA, Nat.sub_self, show i + 1 - i = 1 by omega]
    rfl
  have h2 := gen (l.take i) (l.drop (i + 2)) (opAt l i) (opAt l (i + 1)) hl
  rw [← e] at h2
  exact h2
theorem swap_len (l : List Op3) (i : Nat) : (swapL l i).length = l.length := by unfold swapL; simp
theorem swap_back {l : List Op3} {i : Nat} (h : i + 1 < l.length) : swapL (swapL l i) i = l ∧ opAt (swapL l i) i = opAt l (i + 1) ∧ opAt (swapL l i) (i + 1) = opAt l i := by
  obtain ⟨h1, h2⟩ := swap_split h
  have hl : (l.take i).length = i := by rw [List.length_take]; omega
  have e1 : opAt (swapL l i) i = opAt l (i + 1) := by rw [h2, opAt_right (by omega), hl, Nat.sub_self]; rfl
  have e2 : opAt (swapL l i) (i + 1) = opAt l i := by rw [h2, opAt_right (by omega), hl, show i + 1 - i = 1 by omega]; rfl
  refine ⟨?_, e1, e2⟩
  obtain ⟨_, h4⟩ := swap_split (l := swapL l i) (i := i) (by rw [swap_len]; exact h)
  rw [h4, e1, e2]
  have t1 : (swapL l i).take i = l.take i := by rw [h2, List.take_append_of_le_length (by omega), List.take_of_length_le (by omega)]
  have t2 : (swapL l i).drop (i + 2) = l.drop (i + 2) := by
    rw [h2, List.drop_append, List.drop_of_length_le (by omega), hl, show i + 2 - i = 2 by omega]; rfl
  rw [t1, t2]
  exact h1.symm
theorem two_of_deal {x y : Op3} (h : x.1 ≠ y.1) (A B : List Op3) (t : Int) : ofL (A ++ x :: y :: B) t = ofL (A ++ y :: x :: B) t := by
  rw [ofL_append, ofL_append]
  congr 1
  rw [ofL_cons, ofL_cons, ofL_cons, ofL_cons]
  by_cases h1 : x.1 = t
  · have : ¬ y.1 = t := fun e => h (h1.trans e.symm)
    simp [h1, this]
  · simp [h1]
theorem swap_deals {l : List Op3} {i : Nat} (h : i + 1 < l.length) (hne : (opAt l i).1 ≠ (opAt l (i + 1)).1) (t : Int) : ofL (swapL l i) t = ofL l t := by
  obtain ⟨h1, h2⟩ := swap_split h
  rw [h2]
  conv => rhs; rw [h1]
  exact (two_of_deal hne _ _ t).symm
theorem swap_mem {l : List Op3} {i : Nat} (h : i + 1 < l.length) (x : Op3) : x ∈ swapL l i ↔ x ∈ l := by
  obtain ⟨h1, h2⟩ := swap_split h
  rw [h2]
  conv => rhs; rw [h1]
  simp only [List.mem_append, List.mem_cons]
  constructor
  · rintro (h | h | h | h)
    · exact .inl h
    · exact .inr (.inr (.inl h))
    · exact .inr (.inl h)
    · exact .inr (.inr (.inr h))
  · rintro (h | h | h | h)
    · exact .inl h
    · exact .inr (.inr (.inl h))
    · exact .inr (.inl h)
    · exact .inr (.inr (.inr h))
theorem swap_chk {l : List Op3} (hc : (chk l).2 = 0) {i : Nat} (h : i + 1 < l.length) (hne : (opAt l i).1 ≠ (opAt l (i + 1)).1) : (chk (swapL l i)).2 = 0 := by
  obtain ⟨h1, h2, h3⟩ := (chk_iff l).1 hc
  refine (chk_iff _).2 ⟨by rw [swap_len]; exact h1, fun x hx => h2 x ((swap_mem h x).1 hx), calm_of fun t => ?_⟩
  rw [swap_deals h hne]
  exact h3.sublist List.filter_sublist
/-- Where an op goes. -/
def moved (i k : Nat) : Nat := if k = i then i + 1 else if k = i + 1 then i else k
theorem take_two {x y : Op3} (A B : List Op3) (k : Nat) : (A ++ x :: y :: B).take (A.length + 2 + k) = A ++ x :: y :: B.take k := by
  rw [show A.length + 2 + k = A.length + (k + 2) by omega, List.take_append]
  rw [List.take_of_length_le (by omega), Nat.add_sub_cancel_left]
  rfl
theorem swap_name {l : List Op3} {i : Nat} (h : i + 1 < l.length) (hne : (opAt l i).1 ≠ (opAt l (i + 1)).1) {k : Nat} (hk : k < l.length) : nameAt (swapL l i) (moved i k) = nameAt l k := by
  obtain ⟨h1, h2⟩ := swap_split h
  obtain ⟨_, e1, e2⟩ := swap_back h
  have hl : (l.take i).length = i := by rw [List.length_take]; omega
  unfold nameAt nthAt moved
  by_cases k1 : k = i
  · subst k1
    rw [if_pos rfl, e2]
    congr 1
    have : (swapL l k).take (k + 1) = l.take k ++ [opAt l (k + 1)] := by
      rw [h2, List.take_append, List.take_of_length_le (by omega), hl, show k + 1 - k = 1 by omega]; rfl
    rw [this, ofL_append, List.length_append]
    have h3 : ofL [opAt l (k + 1)] (opAt l k).1 = [] := by rw [ofL_cons, if_neg fun e => hne e.symm]; rfl
    rw [h3]; simp
  · by_cases k2 : k = i + 1
    · subst k2
      rw [if_neg (by omega), if_pos rfl, e1]
      congr 1
      have t1 : (swapL l i).take i = l.take i := by rw [h2, List.take_append_of_le_length (by omega), List.take_of_length_le (by omega)]
      have t2 : l.take (i + 1) = l.take i ++ [opAt l i] := by rw [List.take_succ_eq_append_getElem (by omega), opAt_get (by omega)]
      rw [t1, t2, ofL_append, List.length_append]
      have h3 : ofL [opAt l i] (opAt l (i + 1)).1 = [] := by rw [ofL_cons, if_neg hne]; rfl
      rw [h3]; simp
    · rw [if_neg k1, if_neg k2]
      by_cases k3 : k < i
      · have o1 : opAt (swapL l i) k = opAt l k := by
          rw [h2, opAt_left (by omega)]
          conv => rhs; rw [h1]
          rw [opAt_left (by omega)]
        have t1 : (swapL l i).take k = l.take k := by
          rw [h2, List.take_append_of_le_length (by omega)]
          conv => rhs; rw [h1]
          rw [List.take_append_of_le_length (by omega)]
        rw [o1, t1]
      · obtain ⟨m, rfl⟩ : ∃ m, k = i + 2 + m := ⟨k - i - 2, by omega⟩
        have o1 : opAt (swapL l i) (i + 2 + m) = opAt l (i + 2 + m) := by
          rw [h2, opAt_right (by omega)]
          conv => rhs; rw [h1]
          rw [opAt_right (by omega), hl, show i + 2 + m - i = m + 2 by omega]
          rfl
        rw [o1]
        congr 1
        have t1 := take_two (x := opAt l (i + 1)) (y := opAt l i) (l.take i) (l.drop (i + 2)) m
        have t2 := take_two (x := opAt l i) (y := opAt l (i + 1)) (l.take i) (l.drop (i + 2)) m
        rw [hl, ← h2] at t1
        rw [hl, ← h1] at t2
        rw [t1, t2, two_of_deal hne]
theorem swap_same {l : List Op3} (hd : ∀ x ∈ l, 1 ≤ x.1 ∧ x.1 ≤ 6) {i : Nat} (h : i + 1 < l.length) (hne : (opAt l i).1 ≠ (opAt l (i + 1)).1) (ho : oddB (opAt l i) (opAt l (i + 1)) = false) : sameB l (swapL l i) = true := by
  have hq : dealsEq l (swapL l i) := fun t _ _ => (swap_deals h hne t).symm
  rw [sameB_yes ⟨(swap_len l i).symm, named_of_deals hd hq⟩, Bool.not_eq_true', List.any_eq_false]
  intro e he
  obtain ⟨p, q, hpq, hql, hodd, rfl⟩ := mem_pairs.1 he
  have hm : ∀ k, k < l.length → moved i k < (swapL l i).length := fun k hk => by
    rw [swap_len]
    unfold moved
    split
    · omega
    · split <;> omega
  unfold turnedB
  simp only [Int.toNat_natCast, spot_at (hm p (by omega)) (swap_name h hne (by omega)), spot_at (hm q hql) (swap_name h hne hql), decide_eq_true_eq]
  unfold moved
  intro hlt
  have : p = i ∧ q = i + 1 := by
    split at hlt
    · split at hlt
      · omega
      · split at hlt <;> omega
    · split at hlt
      · split at hlt
        · omega
        · split at hlt <;> omega
      · split at hlt
        · omega
        · split at hlt <;> omega
  rw [this.1, this.2, ho] at hodd
  cases hodd
/-- Which edges there are: of any two at odds, one ahead of the other. -/
theorem edge_sub {d : List Op3} (hd : ∀ x ∈ d, 1 ≤ x.1 ∧ x.1 ≤ 6) {e : Edge2} : e ∈ edgesTo d 36 ↔ ∃ a b : Op3, [a, b].Sublist d ∧ oddB a b = true ∧ e = (a.1, b.1) := by
  have hget : ∀ {l : List Op3} {i j : Nat}, i < j → j < l.length → [opAt l i, opAt l j].Sublist l := by
    intro l
    induction l with
    | nil => intro i j _ hj; simp at hj
    | cons a r ih =>
      intro i j hij hj
      cases j with
      | zero => omega
      | succ j =>
        rw [opAt_cons]
        cases i with
        | zero => exact List.Sublist.cons_cons _ (List.singleton_sublist.2 (opAt_mem (by simpa using hj)))
        | succ i => rw [opAt_cons]; exact (ih (by omega) (by simpa using hj)).cons _
  have hput : ∀ {l : List Op3} {a b : Op3}, [a, b].Sublist l → ∃ i j : Nat, i < j ∧ j < l.length ∧ opAt l i = a ∧ opAt l j = b := by
    intro l
    induction l with
    | nil => intro a b h; cases h
    | cons c r ih =>
      intro a b h
      cases h with
      | cons _ h =>
        obtain ⟨i, j, h1, h2, h3, h4⟩ := ih h
        exact ⟨i + 1, j + 1, by omega, by simpa using h2, by rw [opAt_cons]; exact h3, by rw [opAt_cons]; exact h4⟩
      | cons_cons _ h =>
        obtain ⟨j, hj, he⟩ := List.getElem_of_mem (List.singleton_sublist.1 h)
        exact ⟨0, j + 1, by omega, by simpa using hj, rfl, by rw [opAt_cons, opAt_get hj]; exact he⟩
  constructor
  · intro h
    obtain ⟨i, j, hij, hj, ho, rfl⟩ := mem_edge h
    exact ⟨_, _, hget hij hj, ho, rfl⟩
  · rintro ⟨a, b, hs, ho, rfl⟩
    obtain ⟨i, j, hij, hj, rfl, rfl⟩ := hput hs
    exact edge_mem hd hij hj ho
theorem sub_swap {x y a b : Op3} (A B : List Op3) (h : [a, b].Sublist (A ++ x :: y :: B)) : [a, b].Sublist (A ++ y :: x :: B) ∨ (a = x ∧ b = y) := by
  obtain ⟨l1, l2, e, h1, h2⟩ := List.sublist_append_iff.1 h
  match l1, e, h1 with
  | [], e, _ =>
    simp only [List.nil_append] at e
    subst e
    cases h2 with
    | cons _ h2 =>
      cases h2 with
      | cons _ h2 => exact .inl (((h2.cons x).cons y).trans (List.sublist_append_right _ _))
      | cons_cons _ h2 => exact .inl ((List.Sublist.cons_cons _ (h2.cons x)).trans (List.sublist_append_right _ _))
    | cons_cons _ h2 =>
      cases h2 with
      | cons _ h2 => exact .inl (((List.Sublist.cons_cons _ h2).cons y).trans (List.sublist_append_right _ _))
      | cons_cons _ h2 => exact .inr ⟨rfl, rfl⟩
  | [c], e, h1 =>
    simp only [List.singleton_append, List.cons.injEq] at e
    obtain ⟨rfl, e⟩ := e
    subst e
    refine .inl (h1.append (List.singleton_sublist.2 ?_))
    have := List.singleton_sublist.1 h2
    simp only [List.mem_cons] at this ⊢
    rcases this with h | h | h
    · exact .inr (.inl h)
    · exact .inl h
    · exact .inr (.inr h)
  | [c, c'], e, h1 =>
    simp only [List.cons_append, List.nil_append, List.cons.injEq] at e
    obtain ⟨rfl, rfl, e⟩ := e
    exact .inl (h1.trans (List.sublist_append_left _ _))
  | _ :: _ :: _ :: _, e, _ => simp at e
theorem edges_two {x y : Op3} {A B : List Op3} (hd : ∀ z ∈ A ++ x :: y :: B, 1 ≤ z.1 ∧ z.1 ≤ 6) (ho : oddB x y = false) : edgesTo (A ++ x :: y :: B) 36 = edgesTo (A ++ y :: x :: B) 36 := by
  have hd2 : ∀ z ∈ A ++ y :: x :: B, 1 ≤ z.1 ∧ z.1 ≤ 6 := fun z hz => hd z (by
    simp only [List.mem_append, List.mem_cons] at hz ⊢
    rcases hz with h | h | h | h
    · exact .inl h
    · exact .inr (.inr (.inl h))
    · exact .inr (.inl h)
    · exact .inr (.inr (.inr h)))
  refine rise_eq _ _ (allE_rise.sublist (List.filter_sublist.trans (List.take_sublist ..))) (allE_rise.sublist (List.filter_sublist.trans (List.take_sublist ..))) fun e => ?_
  rw [edge_sub hd, edge_sub hd2]
  constructor
  · rintro ⟨a, b, hs, h1, rfl⟩
    rcases sub_swap A B hs with h | ⟨rfl, rfl⟩
    · exact ⟨a, b, h, h1, rfl⟩
    · rw [ho] at h1; cases h1
  · rintro ⟨a, b, hs, h1, rfl⟩
    rcases sub_swap A B hs with h | ⟨rfl, rfl⟩
    · exact ⟨a, b, h, h1, rfl⟩
    · rw [odd_sym, ho] at h1; cases h1
theorem swap_comm {l : List Op3} {i : Nat} (h : i + 1 < l.length) (t : Nat) : commIn (swapL l i) t = commIn l t := by
  rw [Bool.eq_iff_iff]
  unfold commIn
  simp only [List.any_eq_true]
  constructor
  · rintro ⟨x, hx, h1⟩; exact ⟨x, (swap_mem h x).1 hx, h1⟩
  · rintro ⟨x, hx, h1⟩; exact ⟨x, (swap_mem h x).2 hx, h1⟩
/-- What is done, with two changed: the same, or two changed. -/
theorem swap_done {l : List Op3} {i : Nat} (h : i + 1 < l.length) : doneL (swapL l i) = doneL l ∨ ∃ A B, doneL l = A ++ opAt l i :: opAt l (i + 1) :: B ∧ doneL (swapL l i) = A ++ opAt l (i + 1) :: opAt l i :: B := by
  obtain ⟨h1, h2⟩ := swap_split h
  have e : doneL (swapL l i) = (swapL l i).filter fun o => commIn l o.1.toNat := by
    unfold doneL
    exact List.filter_congr fun x _ => swap_comm h _
  obtain ⟨c, hc⟩ : ∃ c : Op3 → Bool, (fun o : Op3 => commIn l o.1.toNat) = c := ⟨_, rfl⟩
  have e2 : doneL l = l.filter c := by unfold doneL; rw [hc]
  rw [hc] at e
  have f1 : l.filter c = (l.take i).filter c ++ ((opAt l i :: opAt l (i + 1) :: l.drop (i + 2)).filter c) := by
    conv => lhs; rw [h1]
    rw [List.filter_append]
  have f2 : (swapL l i).filter c = (l.take i).filter c ++ ((opAt l (i + 1) :: opAt l i :: l.drop (i + 2)).filter c) := by rw [h2, List.filter_append]
  rw [e, e2, f1, f2]
  cases cx : c (opAt l i) with
  | false => exact .inl (by rw [List.filter_cons, List.filter_cons, List.filter_cons, List.filter_cons, cx]; rfl)
  | true =>
    cases cy : c (opAt l (i + 1)) with
    | false => exact .inl (by rw [List.filter_cons, List.filter_cons, List.filter_cons, List.filter_cons, cy]; rfl)
    | true => exact .inr ⟨(l.take i).filter c, (l.drop (i + 2)).filter c, by rw [List.filter_cons, List.filter_cons, cx, cy]; rfl, by rw [List.filter_cons, List.filter_cons, cx, cy]; rfl⟩
theorem swap_edges {l : List Op3} (hc : (chk l).2 = 0) {i : Nat} (h : i + 1 < l.length) (ho : oddB (opAt l i) (opAt l (i + 1)) = false) : edgesTo (doneL (swapL l i)) 36 = edgesTo (doneL l) 36 := by
  rcases swap_done h with e | ⟨A, B, e1, e2⟩
  · rw [e]
  · have hd := (doing_done hc).deal
    rw [e1] at hd
    rw [e1, e2, edges_two hd ho]
end Go.Proofs.Ytgnbejemhdcemad
