/-
  PROVED HERE: plain facts, with no word of the program: for whom a lock waits, deal by deal, is the rising list that the document's table makes.
  Conditions: locks are locks.
-/
import Derived.Test.YtjaeaanpbdmfgaeDoorLocksPlain
namespace Go.Proofs.YtjaeaanpbdmfgaeDoor

theorem whom_uniq : ∀ (l m : List Int), l.Pairwise (· < ·) → m.Pairwise (· < ·) → (∀ x, x ∈ l ↔ x ∈ m) → l = m := by
  intro l
  induction l with
  | nil =>
    intro m _ _ h
    cases m with
    | nil => rfl
    | cons b r => exact absurd ((h b).2 (List.mem_cons_self ..)) (by simp)
  | cons a l ih =>
    intro m hl hm h
    cases m with
    | nil => exact absurd ((h a).1 (List.mem_cons_self ..)) (by simp)
    | cons b r =>
      obtain ⟨l1, l2⟩ := List.pairwise_cons.1 hl
      obtain ⟨m1, m2⟩ := List.pairwise_cons.1 hm
      have hab : a = b := by
        rcases List.mem_cons.1 ((h a).1 (List.mem_cons_self ..)) with e | e
        · exact e
        · rcases List.mem_cons.1 ((h b).2 (List.mem_cons_self ..)) with e2 | e2
          · exact e2.symm
          · have := m1 a e; have := l1 b e2; omega
      subst hab
      congr 1
      refine ih r l2 m2 fun x => ⟨fun hx => ?_, fun hx => ?_⟩
      · rcases List.mem_cons.1 ((h x).1 (List.mem_cons_of_mem _ hx)) with e | e
        · have := l1 x hx; omega
        · exact e
      · rcases List.mem_cons.1 ((h x).2 (List.mem_cons_of_mem _ hx)) with e | e
        · have := m1 x hx; omega
        · exact e
theorem whomL_mem (l : List Int) (n x : Int) : x ∈ putL l n ↔ x = n ∨ x ∈ l := by
  induction l with
  | nil => simp [putL]
  | cons a r ih =>
    unfold putL
    split
    · rename_i h; subst h; simp
    · split
      · simp
      · rw [List.mem_cons, ih, List.mem_cons]
        constructor
        · rintro (h | h | h)
          · exact .inr (.inl h)
          · exact .inl h
          · exact .inr (.inr h)
        · rintro (h | h | h)
          · exact .inr (.inl h)
          · exact .inl h
          · exact .inr (.inr h)
theorem whomL_rise {l : List Int} (h : l.Pairwise (· < ·)) (n : Int) : (putL l n).Pairwise (· < ·) := by
  induction l with
  | nil => simp [putL]
  | cons a r ih =>
    obtain ⟨h1, h2⟩ := List.pairwise_cons.1 h
    unfold putL
    split
    · exact h
    · split
      · rename_i hn hlt
        refine List.pairwise_cons.2 ⟨fun x hx => ?_, h⟩
        rcases List.mem_cons.1 hx with rfl | hx
        · exact hlt
        · have := h1 x hx; omega
      · rename_i hn hlt
        refine List.pairwise_cons.2 ⟨fun x hx => ?_, ih h2⟩
        rcases (whomL_mem r n x).1 hx with rfl | hx
        · omega
        · exact h1 x hx
theorem putsO_mem (x : Int) : ∀ (l : List Op3) (o : List Int), x ∈ putsO o l ↔ (x ∈ o ∨ ∃ y ∈ l, y.1 = x) := by
  intro l
  induction l with
  | nil => intro o; simp [putsO]
  | cons a r ih =>
    intro o
    have hi := ih (putL o a.1)
    unfold putsO at hi ⊢
    rw [List.foldl_cons, hi, whomL_mem]
    clear hi
    constructor
    · rintro ((h | h) | ⟨y, hy, h⟩)
      · exact .inr ⟨a, List.mem_cons_self, h.symm⟩
      · exact .inl h
      · exact .inr ⟨y, List.mem_cons_of_mem _ hy, h⟩
    · rintro (h | ⟨y, hy, h⟩)
      · exact .inl (.inr h)
      · rcases List.mem_cons.1 hy with rfl | hy
        · exact .inl (.inl h.symm)
        · exact .inr ⟨y, hy, h⟩
theorem putsP_rise : ∀ (l : List Op3) (o : List Int), o.Pairwise (· < ·) → (putsO o l).Pairwise (· < ·) := by
  intro l
  induction l with
  | nil => intro o h; exact h
  | cons a r ih => intro o h; exact ih _ (whomL_rise h a.1)
/-- Does a deal stand in a lock's way? -/
def stopB (s : Tab2) (x : Op3) (t : Int) : Bool := s.1.any (fun y => y.1 == t && lodd y x) || (aheadL s.2 x.1).any (fun y => y.1 == t && lodd y x)
/-- Those of the first n deals that do. -/
def whomTo (s : Tab2) (x : Op3) : Nat → List Int
  | 0 => []
  | n + 1 => if stopB s x ((n : Int) + 1) = true then whomTo s x n ++ [(n : Int) + 1] else whomTo s x n
theorem whomTo_mem (s : Tab2) (x : Op3) (t : Int) : ∀ n : Nat, t ∈ whomTo s x n ↔ (1 ≤ t ∧ t ≤ n ∧ stopB s x t = true) := by
  intro n
  induction n with
  | zero => simp only [whomTo]; constructor
            · intro h; cases h
            · rintro ⟨h1, h2, _⟩; omega
  | succ n ih =>
    unfold whomTo
    split
    · rename_i hs
      rw [List.mem_append, ih, List.mem_singleton]
      constructor
      · rintro (⟨h1, h2, h3⟩ | rfl)
        · exact ⟨h1, by omega, h3⟩
        · exact ⟨by omega, by omega, hs⟩
      · rintro ⟨h1, h2, h3⟩
        by_cases e : t = (n : Int) + 1
        · exact .inr e
        · exact .inl ⟨h1, by omega, h3⟩
    · rename_i hs
      rw [ih]
      constructor
      · rintro ⟨h1, h2, h3⟩; exact ⟨h1, by omega, h3⟩
      · rintro ⟨h1, h2, h3⟩
        refine ⟨h1, ?_, h3⟩
        by_cases e : t = (n : Int) + 1
        · rw [e] at h3; exact absurd h3 hs
        · omega
theorem whomTo_rise (s : Tab2) (x : Op3) : ∀ n : Nat, (whomTo s x n).Pairwise (· < ·) := by
  intro n
  induction n with
  | zero => exact List.Pairwise.nil
  | succ n ih =>
    unfold whomTo
    split
    · refine List.pairwise_append.2 ⟨ih, List.pairwise_singleton _ _, fun a ha b hb => ?_⟩
      rw [List.mem_singleton.1 hb]
      have := (whomTo_mem s x a n).1 ha
      omega
    · exact ih
theorem whomTo_len (s : Tab2) (x : Op3) : ∀ n : Nat, (whomTo s x n).length ≤ n := by
  intro n
  induction n with
  | zero => exact Nat.le_refl _
  | succ n ih =>
    unfold whomTo
    split
    · simp; omega
    · omega
theorem whom_for {s : Tab2} {x : Op3} (h1 : ∀ y ∈ s.1, isLock y = true) (h2 : ∀ y ∈ s.2, isLock y = true) : whomTo s x 6 = forT s x := by
  refine whom_uniq _ _ (whomTo_rise s x 6) (putsP_rise _ _ (putsP_rise _ _ List.Pairwise.nil)) fun t => ?_
  rw [whomTo_mem]
  unfold forT
  rw [putsO_mem, putsO_mem]
  have hsub : ∀ y ∈ aheadL s.2 x.1, y ∈ s.2 := fun y hy => (List.takeWhile_sublist _).subset hy
  unfold stopB
  rw [Bool.or_eq_true, List.any_eq_true, List.any_eq_true]
  constructor
  · rintro ⟨_, _, ⟨y, hy, h⟩ | ⟨y, hy, h⟩⟩
    · rw [Bool.and_eq_true, beq_iff_eq] at h
      exact .inl (.inr ⟨y, List.mem_filter.2 ⟨hy, h.2⟩, h.1⟩)
    · rw [Bool.and_eq_true, beq_iff_eq] at h
      exact .inr ⟨y, List.mem_filter.2 ⟨hy, h.2⟩, h.1⟩
  · rintro ((h | ⟨y, hy, h⟩) | ⟨y, hy, h⟩)
    · cases h
    · obtain ⟨hy, ho⟩ := List.mem_filter.1 hy
      have hl := h1 y hy
      simp only [isLock, Bool.and_eq_true, decide_eq_true_eq] at hl
      exact ⟨by omega, by have := hl.1.2; omega, .inl ⟨y, hy, by rw [Bool.and_eq_true, beq_iff_eq]; exact ⟨h, ho⟩⟩⟩
    · obtain ⟨hy, ho⟩ := List.mem_filter.1 hy
      have hl := h2 y (hsub y hy)
      simp only [isLock, Bool.and_eq_true, decide_eq_true_eq] at hl
      exact ⟨by omega, by have := hl.1.2; omega, .inr ⟨y, hy, by rw [Bool.and_eq_true, beq_iff_eq]; exact ⟨h, ho⟩⟩⟩
end Go.Proofs.YtjaeaanpbdmfgaeDoor
