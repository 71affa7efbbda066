/-
  PROVED HERE: plain facts, with no word of the program: rising lists that have the same members are one; the rising list of the deals of ops; a list sorted is a rising one just if it has its members, each once.
  Conditions: none.
-/
import Derived.Test.YtjcaekhkeobhpahDoorSortPlain
import Derived.Test.YtjcaekhkeobhpahDoorBack
namespace Go.Proofs.YtjcaekhkeobhpahDoor

theorem rise_uniq : ∀ (l m : List Int), l.Pairwise (· < ·) → m.Pairwise (· < ·) → (∀ x, x ∈ l ↔ x ∈ m) → l = m := by
  intro l
  induction l with
  | nil =>
    intro m _ _ h
    cases m with
    | nil => rfl
    | cons b r => exact absurd ((h b).2 (List.mem_cons_self ..)) (by simp)
  | cons a l ih =>
    intro m hl hm h
    cases m with
    | nil => exact absurd ((h a).1 (List.mem_cons_self ..)) (by simp)
    | cons b r =>
      obtain ⟨l1, l2⟩ := List.pairwise_cons.1 hl
      obtain ⟨m1, m2⟩ := List.pairwise_cons.1 hm
      have hab : a = b := by
        rcases List.mem_cons.1 ((h a).1 (List.mem_cons_self ..)) with e | e
        · exact e
        · rcases List.mem_cons.1 ((h b).2 (List.mem_cons_self ..)) with e2 | e2
          · exact e2.symm
          · have := m1 a e; have := l1 b e2; omega
      subst hab
      congr 1
      refine ih r l2 m2 fun x => ⟨fun hx => ?_, fun hx => ?_⟩
      · rcases List.mem_cons.1 ((h x).1 (List.mem_cons_of_mem _ hx)) with e | e
        · have := l1 x hx; omega
        · exact e
      · rcases List.mem_cons.1 ((h x).2 (List.mem_cons_of_mem _ hx)) with e | e
        · have := m1 x hx; omega
        · exact e
theorem rise_nodup {l : List Int} (h : l.Pairwise (· < ·)) : l.Nodup := by
  rw [List.nodup_iff_pairwise_ne]
  exact h.imp fun {a b} hab => by omega
theorem dealsTo_in (l : List Op3) {t : Int} (h1 : 1 ≤ t) (h : hasB l t = true) : ∀ n : Nat, t ≤ n → t ∈ dealsTo l n := by
  intro n
  induction n with
  | zero => intro h2; omega
  | succ n ih =>
    intro h2
    simp only [dealsTo]
    by_cases e : t = (n : Int) + 1
    · subst e; rw [if_pos h]; simp
    · exact List.mem_append_left _ (ih (by omega))
theorem mem_deals {l : List Op3} {t : Int} : t ∈ dealsL l ↔ (1 ≤ t ∧ t ≤ 6 ∧ hasB l t = true) := by
  constructor
  · intro h
    have := dealsTo_mem l 6 t h
    exact ⟨this.1, by have := this.2.1; omega, this.2.2⟩
  · rintro ⟨h1, h2, h3⟩
    exact dealsTo_in l h1 h3 6 (by omega)
theorem hasB_iff {l : List Op3} {t : Int} : hasB l t = true ↔ ∃ o ∈ l, o.1 = t := by simp [hasB]
/-- Numbers put in one by one. -/
def putsL (o : List Int) : List Int := o.foldl putL []
theorem puts_mem (x : Int) : ∀ (o acc : List Int), x ∈ o.foldl putL acc ↔ (x ∈ acc ∨ x ∈ o) := by
  intro o
  induction o with
  | nil => intro acc; simp
  | cons a r ih =>
    intro acc
    rw [List.foldl_cons, ih, putL_mem, List.mem_cons]
    constructor
    · rintro ((h | h) | h)
      · exact .inr (.inl h)
      · exact .inl h
      · exact .inr (.inr h)
    · rintro (h | h | h)
      · exact .inl (.inr h)
      · exact .inl (.inl h)
      · exact .inr h
theorem puts_rise : ∀ (o acc : List Int), acc.Pairwise (· < ·) → (o.foldl putL acc).Pairwise (· < ·) := by
  intro o
  induction o with
  | nil => intro acc h; exact h
  | cons a r ih => intro acc h; exact ih _ (putL_rise h a)
theorem puts_len : ∀ (o acc : List Int), (o.foldl putL acc).length ≤ acc.length + o.length := by
  intro o
  induction o with
  | nil => intro acc; simp
  | cons a r ih =>
    intro acc
    have h1 := ih (putL acc a)
    have h2 := putL_len acc a
    simp only [List.foldl_cons, List.length_cons]
    omega
theorem putsL_snoc (o : List Int) (x : Int) : putsL (o ++ [x]) = putL (putsL o) x := by simp [putsL]
theorem putsL_len (o : List Int) : (putsL o).length ≤ o.length := by
  have := puts_len o []
  simpa [putsL] using this
theorem mem_puts {o : List Int} {x : Int} : x ∈ putsL o ↔ x ∈ o := by
  have := puts_mem x o []
  simpa [putsL] using this
theorem putsL_rise (o : List Int) : (putsL o).Pairwise (· < ·) := puts_rise o [] List.Pairwise.nil
theorem dealsL_rise (l : List Op3) : (dealsL l).Pairwise (· < ·) := dealsTo_rise l 6
/-- The deals of ops, put in one by one, are those of the program. -/
theorem puts_deals {l : List Op3} (h : ∀ o ∈ l, 1 ≤ o.1 ∧ o.1 ≤ 6) : putsL (l.map (·.1)) = dealsL l := by
  refine rise_uniq _ _ (putsL_rise _) (dealsL_rise l) fun x => ?_
  rw [mem_puts, mem_deals, hasB_iff, List.mem_map]
  constructor
  · rintro ⟨o, ho, rfl⟩
    exact ⟨(h o ho).1, (h o ho).2, o, ho, rfl⟩
  · rintro ⟨_, _, o, ho, e⟩
    exact ⟨o, ho, e⟩
/-- A list sorted. -/
def sortI (o : List Int) : List Int := o.mergeSort fun x y => decide (x ≤ y)
theorem sortI_perm (o : List Int) : (sortI o).Perm o := List.mergeSort_perm o _
theorem sortI_sorted (o : List Int) : (sortI o).Pairwise (· ≤ ·) := by
  have := List.pairwise_mergeSort (le := fun x y : Int => decide (x ≤ y)) (by intro a b c h1 h2; simp at *; omega) (by intro a b; simp; omega) o
  exact this.imp fun {a b} hab => by simpa using hab
theorem perm_of_sub : ∀ (d o : List Int), d.Nodup → (∀ x ∈ d, x ∈ o) → o.length ≤ d.length → d.Perm o := by
  intro d
  induction d with
  | nil =>
    intro o _ _ h
    have e : o = [] := List.length_eq_zero_iff.1 (by simpa using h)
    rw [e]
  | cons a d ih =>
    intro o hn hs hl
    have ha : a ∈ o := hs a (List.mem_cons_self ..)
    have h1 := List.perm_cons_erase ha
    have h2 := List.length_erase_of_mem ha
    have hpos := List.length_pos_of_mem ha
    obtain ⟨hna, hnd⟩ := List.nodup_cons.1 hn
    refine ((ih (o.erase a) hnd (fun x hx => ?_) (by simp at hl; omega)).cons a).trans h1.symm
    have hxa : x ≠ a := fun e => hna (e ▸ hx)
    exact (List.mem_erase_of_ne hxa).2 (hs x (List.mem_cons_of_mem _ hx))
theorem sort_iff {o d : List Int} (hd : d.Pairwise (· < ·)) : sortI o = d ↔ (o.length = d.length ∧ putsL o = d) := by
  constructor
  · intro h
    have hp : d.Perm o := h ▸ sortI_perm o
    refine ⟨hp.length_eq.symm, rise_uniq _ _ (putsL_rise o) hd fun x => ?_⟩
    rw [mem_puts]
    exact hp.mem_iff.symm
  · rintro ⟨hl, h⟩
    have hp : d.Perm o := perm_of_sub d o (rise_nodup hd) (fun x hx => mem_puts.1 (h ▸ hx)) (by omega)
    have hq : (sortI o).Perm d := (sortI_perm o).trans hp.symm
    refine rise_uniq _ _ ?_ hd fun x => hq.mem_iff
    have hn : (sortI o).Nodup := hq.nodup_iff.2 (rise_nodup hd)
    rw [List.nodup_iff_pairwise_ne] at hn
    exact ((sortI_sorted o).and hn).imp fun {a b} hab => by omega
theorem sort_perm {o d : List Int} (h : sortI o = d) : o.Perm d := h ▸ (sortI_perm o).symm
/-- An order of all deals that ops name. -/
theorem order_len {l : List Op3} {o : List Int} (h : sortI o = dealsL l) : o.length ≤ 6 := by
  rw [(sort_perm h).length_eq]; exact dealsTo_len l 6
theorem order_deal {l : List Op3} {o : List Int} (h : sortI o = dealsL l) {x : Int} (hx : x ∈ o) : 1 ≤ x ∧ x ≤ 6 := by
  have := mem_deals.1 ((sort_perm h).mem_iff.1 hx)
  exact ⟨this.1, this.2.1⟩
/-- The ops of deals along an order. -/
def alongL (d : List Op3) (o : List Int) : List Op3 := o.flatMap fun t => ofL d t
theorem along_snoc (d : List Op3) (o : List Int) (t : Int) : alongL d (o ++ [t]) = alongL d o ++ ofL d t := by simp [alongL]
theorem along_len (d : List Op3) (o : List Int) : (alongL d o).length ≤ o.length * d.length := by
  induction o with
  | nil => simp [alongL]
  | cons t o ih =>
    have h1 : (ofL d t).length ≤ d.length := List.length_filter_le ..
    have h2 : alongL d (t :: o) = ofL d t ++ alongL d o := by simp [alongL]
    rw [h2, List.length_append, List.length_cons, Nat.add_mul]
    omega
end Go.Proofs.YtjcaekhkeobhpahDoor
