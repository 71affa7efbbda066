/-
  PROVED HERE: plain facts, with no word of the program: rising lists that have the same members are one; the rising list of the deals of ops; a list sorted is a rising one just if it has its members, each once.
  Conditions: none.
  (Of these, what the claim wants: the rest was left out.)
  PROVED HERE: plain facts, with no word of the program: the order of all deals, the least that could be next first, is that of the deals that edges name, with the others woven in, each as soon as it is less than the next one.
  Conditions: none.
-/
import Derived.Test.YtmjjiehnjghndaaGreatMgad
import Derived.Test.YtmjjiehnjghndaaGreatMgaf
namespace Go.Proofs.YtmjjiehnjghndaaGreat

theorem rise_uniq : ∀ (l m : List Int), l.Pairwise (· < ·) → m.Pairwise (· < ·) → (∀ x, x ∈ l ↔ x ∈ m) → l = m := by
  intro l
  induction l with
  | nil =>
    intro m _ _ h
    cases m with
    | nil => rfl
    | cons b r => exact absurd ((h b).2 (List.mem_cons_self ..)) (by simp)
  | cons a l ih =>
    intro m hl hm h
    cases m with
    | nil => exact absurd ((h a).1 (List.mem_cons_self ..)) (by simp)
    | cons b r =>
      obtain ⟨l1, l2⟩ := List.pairwise_cons.1 hl
      obtain ⟨m1, m2⟩ := List.pairwise_cons.1 hm
      have hab : a = b := by
        rcases List.mem_cons.1 ((h a).1 (List.mem_cons_self ..)) with e | e
        · exact e
        · rcases List.mem_cons.1 ((h b).2 (List.mem_cons_self ..)) with e2 | e2
          · exact e2.symm
          · have := m1 a e; have := l1 b e2; omega
      subst hab
      congr 1
      refine ih r l2 m2 fun x => ⟨fun hx => ?_, fun hx => ?_⟩
      · rcases List.mem_cons.1 ((h x).1 (List.mem_cons_of_mem _ hx)) with e | e
        · have := l1 x hx; omega
        · exact e
      · rcases List.mem_cons.1 ((h x).2 (List.mem_cons_of_mem _ hx)) with e | e
        · have := m1 x hx; omega
        · exact e
theorem rise_nodup {l : List Int} (h : l.Pairwise (· < ·)) : l.Nodup := by
  rw [List.nodup_iff_pairwise_ne]
  exact h.imp fun {a b} hab => by omega
theorem dealsTo_in (l : List Op3) {t : Int} (h1 : 1 ≤ t) (h : hasB l t = true) : ∀ n : Nat, t ≤ n → t ∈ dealsTo l n := by
  intro n
  induction n with
  | zero => intro h2; omega
  | succ n ih =>
    intro h2
    simp only [dealsTo]
    by_cases e : t = (n : Int) + 1
    · subst e; rw [if_pos h]; simp
    · exact List.mem_append_left _ (ih (by omega))
theorem mem_deals {l : List Op3} {t : Int} : t ∈ dealsL l ↔ (1 ≤ t ∧ t ≤ 6 ∧ hasB l t = true) := by
  constructor
  · intro h
    have := dealsTo_mem l 6 t h
    exact ⟨this.1, by have := this.2.1; omega, this.2.2⟩
  · rintro ⟨h1, h2, h3⟩
    exact dealsTo_in l h1 h3 6 (by omega)
theorem hasB_iff {l : List Op3} {t : Int} : hasB l t = true ↔ ∃ o ∈ l, o.1 = t := by simp [hasB]
theorem dealsL_rise (l : List Op3) : (dealsL l).Pairwise (· < ·) := dealsTo_rise l 6
/-- A list sorted. -/
def sortI (o : List Int) : List Int := o.mergeSort fun x y => decide (x ≤ y)
theorem sortI_perm (o : List Int) : (sortI o).Perm o := List.mergeSort_perm o _
theorem sortI_sorted (o : List Int) : (sortI o).Pairwise (· ≤ ·) := by
  have := List.pairwise_mergeSort (le := fun x y : Int => decide (x ≤ y)) (by intro a b c h1 h2; simp at *; omega) (by intro a b; simp; omega) o
  exact this.imp fun {a b} hab => by simpa using hab
theorem sort_perm {o d : List Int} (h : sortI o = d) : o.Perm d := h ▸ (sortI_perm o).symm
/-- An order of all deals that ops name. -/
theorem order_len {l : List Op3} {o : List Int} (h : sortI o = dealsL l) : o.length ≤ 6 := by
  rw [(sort_perm h).length_eq]; exact dealsTo_len l 6
/-- The ops of deals along an order. -/
def alongL (d : List Op3) (o : List Int) : List Op3 := o.flatMap fun t => ofL d t
theorem along_snoc (d : List Op3) (o : List Int) (t : Int) : alongL d (o ++ [t]) = alongL d o ++ ofL d t := by simp [alongL]
theorem along_len (d : List Op3) (o : List Int) : (alongL d o).length ≤ o.length * d.length := by
  induction o with
  | nil => simp [alongL]
  | cons t o ih =>
    have h1 : (ofL d t).length ≤ d.length := List.length_filter_le ..
    have h2 : alongL d (t :: o) = ofL d t ++ alongL d o := by simp [alongL]
    rw [h2, List.length_append, List.length_cons, Nat.add_mul]
    omega
end Go.Proofs.YtmjjiehnjghndaaGreat

namespace Go.Proofs.YtmjjiehnjghndaaGreat

/-- Free deals, rising, between those of an order. -/
def weaveL : List Int → List Int → List Int
  | [], fr => fr
  | b :: bs, fr => fr.takeWhile (fun x => decide (x < b)) ++ b :: weaveL bs (fr.dropWhile fun x => decide (x < b))
theorem weave_nil (b : List Int) : weaveL b [] = b := by
  induction b with
  | nil => rfl
  | cons a r ih => simp [weaveL, ih]
theorem weave_take {b f : Int} {bs fr : List Int} (h : f < b) : weaveL (b :: bs) (f :: fr) = f :: weaveL (b :: bs) fr := by simp [weaveL, h]
theorem weave_pass {b f : Int} {bs fr : List Int} (h : ¬ f < b) : weaveL (b :: bs) (f :: fr) = b :: weaveL bs (f :: fr) := by simp [weaveL, h]
theorem weave_len (b : List Int) : ∀ fr, (weaveL b fr).length = b.length + fr.length := by
  induction b with
  | nil => intro fr; simp [weaveL]
  | cons a r ih =>
    intro fr
    have h1 := List.takeWhile_append_dropWhile (p := fun x => decide (x < a)) (l := fr)
    have h2 := congrArg List.length h1
    rw [List.length_append] at h2
    simp only [weaveL, List.length_append, List.length_cons, ih]
    omega
/-- The order, from its first on. -/
def ordF (l : List Edge2) : Nat → Set7 → Option (List Int)
  | 0, _ => some []
  | n + 1, s => if anyS s = true then (if nextN l s = 0 then none else (ordF l n (setS s (nextN l s) false)).map ((nextN l s : Int) :: ·)) else some []
theorem orderGo_F (l : List Edge2) : ∀ (n : Nat) (s : Set7) (out : List Int), orderGo l n s out = (ordF l n s).map (out ++ ·) := by
  intro n
  induction n with
  | zero => intro s out; simp [orderGo, ordF]
  | succ n ih =>
    intro s out
    simp only [orderGo, ordF]
    split
    · split
      · rfl
      · rw [ih, Option.map_map]
        congr 1
        funext x
        simp
    · simp
theorem ordF_end {l : List Edge2} {s : Set7} (h : anyS s = false) : ∀ n, ordF l n s = some [] := by
  intro n
  cases n with
  | zero => rfl
  | succ n => simp [ordF, h]
theorem any_true {s : Set7} {t : Nat} (ht : t < 7) (h : s t = true) : anyS s = true := List.any_eq_true.2 ⟨t, List.mem_range.2 ht, h⟩
theorem any_false {s : Set7} (h : anyS s = false) {t : Nat} (ht : t < 7) : s t = false := by
  have := List.any_eq_false.1 h t (List.mem_range.2 ht)
  simpa using this
theorem cnt_zero {s : Set7} (h : cntS s = 0) : anyS s = false := by
  cases h2 : anyS s with
  | false => rfl
  | true => have := cnt_any h2; omega
theorem ordF_on {l : List Edge2} {n : Nat} {s : Set7} (hn : cntS s ≤ n) (h : anyS s = true) (h0 : nextN l s ≠ 0) : ordF l n s = (ordF l (n - 1) (setS s (nextN l s) false)).map ((nextN l s : Int) :: ·) := by
  have := cnt_any h
  match n, hn with
  | 0, hn => omega
  | n + 1, _ => simp [ordF, h, h0]
theorem ordF_stop {l : List Edge2} {n : Nat} {s : Set7} (hn : cntS s ≤ n) (h : anyS s = true) (h0 : nextN l s = 0) : ordF l n s = none := by
  have := cnt_any h
  match n, hn with
  | 0, hn => omega
  | n + 1, _ => simp [ordF, h, h0]
theorem next_free {l : List Edge2} {s : Set7} (h0 : nextN l s ≠ 0) : 1 ≤ nextN l s ∧ nextN l s ≤ 6 ∧ freeB l s (nextN l s) = true ∧ ∀ j, 1 ≤ j → j < nextN l s → freeB l s j = false := by
  rcases next_cases l s with ⟨h, _⟩ | h
  · exact absurd h h0
  · exact h
theorem next_nobody {l : List Edge2} {s : Set7} (h0 : nextN l s = 0) : ∀ j, 1 ≤ j → j < 7 → freeB l s j = false := by
  rcases next_cases l s with ⟨_, h⟩ | ⟨h, _⟩
  · exact h
  · omega
theorem cnt_next {l : List Edge2} {s : Set7} (h0 : nextN l s ≠ 0) : cntS (setS s (nextN l s) false) + 1 = cntS s := by
  obtain ⟨_, h6, hf, _⟩ := next_free h0
  exact cnt_set (by omega) (free_parts hf).1
theorem ordF_fuel (l : List Edge2) : ∀ (n m : Nat) (s : Set7), cntS s ≤ n → cntS s ≤ m → ordF l n s = ordF l m s := by
  intro n
  induction n with
  | zero =>
    intro m s hn _
    rw [ordF_end (cnt_zero (by omega)), ordF_end (cnt_zero (by omega))]
  | succ n ih =>
    intro m s hn hm
    cases h : anyS s with
    | false => rw [ordF_end h, ordF_end h]
    | true =>
      by_cases h0 : nextN l s = 0
      · rw [ordF_stop hn h h0, ordF_stop hm h h0]
      · have hc := cnt_next h0
        rw [ordF_on hn h h0, ordF_on hm h h0, Nat.add_sub_cancel, ih (m - 1) _ (by omega) (by omega)]
theorem ordF_head {l : List Edge2} {n : Nat} {s : Set7} {o : List Int} (hn : cntS s ≤ n) (h : ordF l n s = some o) : (o = [] ∧ anyS s = false) ∨ ∃ r, o = (nextN l s : Int) :: r ∧ nextN l s ≠ 0 := by
  cases ha : anyS s with
  | false => rw [ordF_end ha] at h; exact .inl ⟨(Option.some.inj h).symm, rfl⟩
  | true =>
    by_cases h0 : nextN l s = 0
    · rw [ordF_stop hn ha h0] at h; cases h
    · rw [ordF_on hn ha h0] at h
      obtain ⟨r, _, e⟩ := Option.map_eq_some_iff.1 h
      exact .inr ⟨r, e.symm, h0⟩
theorem ordF_mem (l : List Edge2) : ∀ (n : Nat) (s : Set7) (o : List Int), cntS s ≤ n → (∀ k, s k = true → 1 ≤ k ∧ k ≤ 6) → ordF l n s = some o → ∀ x, x ∈ o ↔ ∃ t : Nat, x = (t : Int) ∧ s t = true := by
  intro n
  induction n with
  | zero =>
    intro s o hn hs h x
    have ha := cnt_zero (s := s) (by omega)
    rw [ordF_end ha] at h
    rw [← Option.some.inj h]
    refine ⟨fun hx => (by cases hx), ?_⟩
    rintro ⟨t, _, ht⟩
    rw [any_false ha (by have := hs t ht; omega)] at ht
    cases ht
  | succ n ih =>
    intro s o hn hs h x
    cases ha : anyS s with
    | false =>
      rw [ordF_end ha] at h
      rw [← Option.some.inj h]
      refine ⟨fun hx => (by cases hx), ?_⟩
      rintro ⟨t, _, ht⟩
      rw [any_false ha (by have := hs t ht; omega)] at ht
      cases ht
    | true =>
      by_cases h0 : nextN l s = 0
      · rw [ordF_stop hn ha h0] at h; cases h
      · rw [ordF_on hn ha h0] at h
        obtain ⟨r, hr, e⟩ := Option.map_eq_some_iff.1 h
        obtain ⟨_, h6, hf, _⟩ := next_free h0
        have hc := cnt_next h0
        have := ih _ r (by omega) (fun k hk => by
          by_cases e2 : k = nextN l s
          · rw [e2, setS_same] at hk; cases hk
          · rw [setS_other s false e2] at hk; exact hs k hk) hr x
        rw [← e, List.mem_cons, this]
        constructor
        · rintro (rfl | ⟨t, rfl, ht⟩)
          · exact ⟨_, rfl, (free_parts hf).1⟩
          · refine ⟨t, rfl, ?_⟩
            by_cases e2 : t = nextN l s
            · rw [e2, setS_same] at ht; cases ht
            · rw [setS_other s false e2] at ht; exact ht
        · rintro ⟨t, rfl, ht⟩
          by_cases e2 : t = nextN l s
          · exact .inl (by rw [e2])
          · exact .inr ⟨t, rfl, by rw [setS_other s false e2]; exact ht⟩
/-- Of those that wait, those that edges name. -/
def onlyS (l : List Edge2) (s : Set7) : Set7 := fun t => s t && namedS l t
theorem cnt_only (l : List Edge2) (s : Set7) : cntS (onlyS l s) ≤ cntS s := by
  have h : ∀ t, (onlyS l s t).toNat ≤ (s t).toNat := fun t => by
    unfold onlyS
    cases s t <;> cases namedS l t <;> simp
  unfold cntS
  have := h 0; have := h 1; have := h 2; have := h 3; have := h 4; have := h 5; have := h 6
  omega
theorem free_only {l : List Edge2} (hr : Right l) (s : Set7) (t : Nat) (ht : namedS l t = true) : freeB l s t = freeB l (onlyS l s) t := by
  unfold freeB
  have e1 : onlyS l s t = s t := by unfold onlyS; rw [ht, Bool.and_true]
  rw [e1]
  congr 2
  refine any_same fun e he => ?_
  obtain ⟨x, y, rfl, hx, hy⟩ := hr.nat he
  have e2 : onlyS l s x = s x := by unfold onlyS; rw [named_from he, Bool.and_true]
  unfold holdB
  simp only [Int.toNat_natCast, e2]
theorem free_other {l : List Edge2} (hr : Right l) (s : Set7) (t : Nat) (ht : namedS l t = false) : freeB l s t = s t := by
  unfold freeB
  have e1 : l.any (holdB s t) = false := by
    refine List.any_eq_false.2 fun e he => ?_
    obtain ⟨x, y, rfl, hx, hy⟩ := hr.nat he
    have : y ≠ t := fun e => by rw [← e, named_to he] at ht; cases ht
    simp [holdB]
    intro h; omega
  rw [e1]; simp
theorem not_free_other {l : List Edge2} (s : Set7) (t : Nat) (ht : namedS l t = false) : freeB l (onlyS l s) t = false := by
  unfold freeB onlyS
  rw [ht]; simp
theorem weave_ord {l : List Edge2} (hr : Right l) : ∀ (n : Nat) (s : Set7) (fr : List Int) (m : Nat), cntS s ≤ n → (∀ k, s k = true → 1 ≤ k ∧ k ≤ 6) → fr.Pairwise (· < ·) →
    (∀ x, x ∈ fr ↔ ∃ t : Nat, x = (t : Int) ∧ s t = true ∧ namedS l t = false) → cntS (onlyS l s) ≤ m → ordF l n s = (ordF l m (onlyS l s)).map fun b => weaveL b fr := by
  intro n
  induction n with
  | zero =>
    intro s fr m hn hs hf hm hc
    have ha := cnt_zero (s := s) (by omega)
    have hfr : fr = [] := List.eq_nil_iff_forall_not_mem.2 fun x hx => by
      obtain ⟨t, _, ht, _⟩ := (hm x).1 hx
      rw [any_false ha (by have := hs t ht; omega)] at ht
      cases ht
    have hao : anyS (onlyS l s) = false := cnt_zero (by have := cnt_only l s; omega)
    rw [ordF_end ha, ordF_end hao, hfr]; rfl
  | succ n ih =>
    intro s fr m hn hs hf hm hc
    cases ha : anyS s with
    | false =>
      have hfr : fr = [] := List.eq_nil_iff_forall_not_mem.2 fun x hx => by
        obtain ⟨t, _, ht, _⟩ := (hm x).1 hx
        rw [any_false ha (by have := hs t ht; omega)] at ht
        cases ht
      have hao : anyS (onlyS l s) = false := cnt_zero (by have := cnt_only l s; have := any_cnt ha; omega)
      rw [ordF_end ha, ordF_end hao, hfr]; rfl
    | true =>
      have hso : ∀ k, onlyS l s k = true → 1 ≤ k ∧ k ≤ 6 := fun k hk => hs k (by unfold onlyS at hk; simp at hk; exact hk.1)
      cases fr with
      | nil =>
        have e : onlyS l s = s := by
          funext t
          unfold onlyS
          cases h1 : s t with
          | false => rfl
          | true =>
            cases h2 : namedS l t with
            | true => rfl
            | false => exact absurd ((hm t).2 ⟨t, rfl, h1, h2⟩) (by simp)
        rw [e] at hc ⊢
        rw [ordF_fuel l (n + 1) m s hn hc]
        have : (fun b => weaveL b []) = (id : List Int → List Int) := funext weave_nil
        rw [this, Option.map_id]; rfl
      | cons f fr =>
        obtain ⟨t, rfl, hst, hnt⟩ := (hm f).1 (List.mem_cons_self ..)
        have ht := hs t hst
        obtain ⟨f1, f2⟩ := List.pairwise_cons.1 hf
        have hleast : ∀ j : Nat, j < t → s j = true → namedS l j = true := fun j hj h1 => by
          cases h2 : namedS l j with
          | true => rfl
          | false =>
            rcases List.mem_cons.1 ((hm j).2 ⟨j, rfl, h1, h2⟩) with h3 | h3
            · omega
            · have := f1 _ h3; omega
        by_cases hb : nextN l (onlyS l s) = 0 ∨ t < nextN l (onlyS l s)
        · have hnx : nextN l s = t := by
            refine next_hit ht.1 ht.2 (by rw [free_other hr s t hnt]; exact hst) fun j hj1 hj => ?_
            cases h2 : namedS l j with
            | false =>
              rw [free_other hr s j h2]
              cases h1 : s j with
              | false => rfl
              | true => rw [hleast j hj h1] at h2; cases h2
            | true =>
              rw [free_only hr s j h2]
              rcases hb with hb | hb
              · exact next_nobody hb j hj1 (by omega)
              · exact (next_free (by omega)).2.2.2 j hj1 (by omega)
          have h0 : nextN l s ≠ 0 := by omega
          have hcn := cnt_next h0
          have eo : onlyS l (setS s t false) = onlyS l s := by
            funext k
            unfold onlyS
            by_cases e : k = t
            · rw [e, hnt]; simp
            · rw [setS_other s false e]
          have h1 := ih (setS s t false) fr m (by rw [hnx] at hcn; omega) (fun k hk => by
            by_cases e : k = t
            · rw [e, setS_same] at hk; cases hk
            · rw [setS_other s false e] at hk; exact hs k hk) f2 (fun x => by
              constructor
              · intro hx
                obtain ⟨k, rfl, hk1, hk2⟩ := (hm x).1 (List.mem_cons_of_mem _ hx)
                have := f1 _ hx
                exact ⟨k, rfl, by rw [setS_other s false (by omega)]; exact hk1, hk2⟩
              · rintro ⟨k, rfl, hk1, hk2⟩
                by_cases e : k = t
                · rw [e, setS_same] at hk1; cases hk1
                · rw [setS_other s false e] at hk1
                  rcases List.mem_cons.1 ((hm k).2 ⟨k, rfl, hk1, hk2⟩) with h3 | h3
                  · omega
                  · exact h3) (by rw [eo]; exact hc)
          rw [ordF_on hn ha h0, hnx, Nat.add_sub_cancel, h1, eo, Option.map_map]
          cases ho : ordF l m (onlyS l s) with
          | none => rfl
          | some o =>
            simp only [Option.map_some, Function.comp]
            congr 1
            rcases ordF_head hc ho with ⟨rfl, _⟩ | ⟨r, rfl, h3⟩
            · rfl
            · rcases hb with hb | hb
              · exact absurd hb h3
              · rw [weave_take (by omega)]
        · have hb0 : nextN l (onlyS l s) ≠ 0 := fun h => hb (.inl h)
          obtain ⟨b1, b6, bf, bl⟩ := next_free hb0
          have bn : namedS l (nextN l (onlyS l s)) = true := by
            cases h2 : namedS l (nextN l (onlyS l s)) with
            | true => rfl
            | false => rw [not_free_other s _ h2] at bf; cases bf
          have hbt : nextN l (onlyS l s) ≠ t := fun e => by rw [e, hnt] at bn; cases bn
          have hlt : nextN l (onlyS l s) < t := by
            rcases Nat.lt_trichotomy t (nextN l (onlyS l s)) with h | h | h
            · exact absurd (Or.inr h) hb
            · exact absurd h.symm hbt
            · exact h
          have hnx : nextN l s = nextN l (onlyS l s) := by
            refine next_hit b1 b6 (by rw [free_only hr s _ bn]; exact bf) fun j hj1 hj => ?_
            cases h2 : namedS l j with
            | false =>
              rw [free_other hr s j h2]
              cases h1 : s j with
              | false => rfl
              | true => rw [hleast j (by omega) h1] at h2; cases h2
            | true => rw [free_only hr s j h2]; exact bl j hj1 hj
          obtain ⟨b, hbe⟩ : ∃ b, nextN l (onlyS l s) = b := ⟨_, rfl⟩
          rw [hbe] at hnx hlt bn bf b1 b6 hbt
          have h0 : nextN l s ≠ 0 := by omega
          have hcn := cnt_next h0
          have hco := cnt_next hb0
          have hao : anyS (onlyS l s) = true := any_true (by omega) (free_parts bf).1
          have eo : onlyS l (setS s b false) = setS (onlyS l s) b false := by
            funext k
            unfold onlyS setS
            by_cases e : k = b
            · simp [e]
            · simp [e]
          have h1 := ih (setS s b false) (t :: fr) (m - 1) (by rw [hnx] at hcn; omega) (fun k hk => by
            by_cases e : k = b
            · rw [e, setS_same] at hk; cases hk
            · rw [setS_other s false e] at hk; exact hs k hk) hf (fun x => by
              rw [hm x]
              constructor
              · rintro ⟨k, rfl, hk1, hk2⟩
                have : k ≠ b := fun e => by rw [e, bn] at hk2; cases hk2
                exact ⟨k, rfl, by rw [setS_other s false this]; exact hk1, hk2⟩
              · rintro ⟨k, rfl, hk1, hk2⟩
                have : k ≠ b := fun e => by rw [e, bn] at hk2; cases hk2
                rw [setS_other s false this] at hk1
                exact ⟨k, rfl, hk1, hk2⟩) (by rw [eo]; rw [hbe] at hco; omega)
          rw [ordF_on hn ha h0, hnx, Nat.add_sub_cancel, h1, eo, ordF_on hc hao hb0, hbe, Option.map_map, Option.map_map]
          congr 1
          funext o
          simp only [Function.comp]
          rw [weave_pass (by omega)]
/-- The order of all of a list, and that of what edges name, with the others woven in. -/
def sortD (d : List Int) (l : List Edge2) : Option (List Int) := orderGo l 7 (leftS d []) []
theorem sortD_weave {d : List Int} {l : List Edge2} (hr : Right l) (hd : d.Pairwise (· < ·)) (hdeal : ∀ x ∈ d, 1 ≤ x ∧ x ≤ 6) (hin : ∀ x ∈ namedI l, x ∈ d) :
    sortD d l = (orderL l).map fun b => weaveL b (d.filter fun x => !inB b x) := by
  unfold sortD orderL
  have hls : ∀ t : Nat, leftS d [] t = inB d (t : Int) := fun t => by
    unfold leftS
    rw [inB_not.2 (by simp : (t : Int) ∉ ([] : List Int))]
    simp
  have eo : onlyS l (leftS d []) = namedS l := by
    funext t
    unfold onlyS
    rw [hls]
    cases h : namedS l t with
    | false => simp
    | true =>
      rw [namedS_I] at h
      rw [inB_iff.2 (hin _ (inB_iff.1 h))]; rfl
  have h1 := weave_ord hr 7 (leftS d []) (d.filter fun x => !inB (namedI l) x) 7 (cnt_le _) (fun k hk => by
    rw [hls, inB_iff] at hk
    have := hdeal _ hk
    omega) (hd.sublist List.filter_sublist) (fun x => by
      rw [List.mem_filter]
      constructor
      · rintro ⟨h1, h2⟩
        have := hdeal x h1
        refine ⟨x.toNat, by omega, ?_, ?_⟩
        · rw [hls, Int.toNat_of_nonneg (by omega)]; exact inB_iff.2 h1
        · rw [namedS_I, Int.toNat_of_nonneg (by omega)]; simpa using h2
      · rintro ⟨t, rfl, h1, h2⟩
        rw [hls] at h1
        rw [namedS_I] at h2
        exact ⟨inB_iff.1 h1, by rw [h2]; rfl⟩) (cnt_le _)
  rw [orderGo_F, orderGo_F, h1, eo]
  cases ho : ordF l 7 (namedS l) with
  | none => rfl
  | some o =>
    simp only [Option.map_some, List.nil_append]
    congr 2
    refine List.filter_congr fun x hx => ?_
    congr 1
    have hm := ordF_mem l 7 (namedS l) o (cnt_le _) (named_right hr) ho x
    have hxd := hdeal x hx
    rw [Bool.eq_iff_iff, inB_iff, inB_iff, hm]
    constructor
    · intro h
      refine ⟨x.toNat, by omega, ?_⟩
      rw [namedS_I, Int.toNat_of_nonneg (by omega)]
      exact inB_iff.2 h
    · rintro ⟨t, rfl, h⟩
      rw [namedS_I] at h
      exact inB_iff.1 h
end Go.Proofs.YtmjjiehnjghndaaGreat
