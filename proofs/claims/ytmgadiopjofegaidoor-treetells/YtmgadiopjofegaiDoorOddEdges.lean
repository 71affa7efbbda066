/-
  PROVED HERE: plain facts on lists, with no word of the program: edges put in one by one, sorted and each once, are the same list as the possible edges, in order, of which only those are kept that are there.
  Conditions: none.
  (Of these, what the claim wants: the rest was left out.)
-/
import Derived.Test.YtmgadiopjofegaiDoorOddPlain
import Derived.Test.YtmgadiopjofegaiDoorBack
namespace Go.Proofs.YtmgadiopjofegaiDoor

def ltB (a x : Edge2) : Bool := decide (a.1 < x.1) || (a.1 == x.1 && decide (a.2 < x.2))
theorem ltB_iff {a x : Edge2} : ltB a x = true ↔ (a.1 < x.1 ∨ a.1 = x.1 ∧ a.2 < x.2) := by simp [ltB]
def Rise (l : List Edge2) : Prop := l.Pairwise fun a b => ltB a b = true
/-- Put an edge into some that rise, once. -/
def addE : List Edge2 → Edge2 → List Edge2
  | [], x => [x]
  | a :: r, x => if ltB a x = true then a :: addE r x else if a = x then a :: r else x :: a :: r
/-- How many stand ahead of it. -/
def leadE : List Edge2 → Edge2 → Nat
  | [], _ => 0
  | a :: r, x => if ltB a x = true then leadE r x + 1 else 0
theorem leadE_le (l : List Edge2) (x : Edge2) : leadE l x ≤ l.length := by
  induction l with
  | nil => simp [leadE]
  | cons a r ih => simp only [leadE]; split <;> simp; omega
theorem leadE_before (l : List Edge2) (x : Edge2) : ∀ k, k < leadE l x → ltB (l.getD k (0, 0)) x = true := by
  induction l with
  | nil => intro k hk; simp [leadE] at hk
  | cons a r ih =>
    intro k hk
    simp only [leadE] at hk
    split at hk
    · rename_i h
      cases k with
      | zero => simpa using h
      | succ k => simpa using ih k (by omega)
    · omega
theorem leadE_at (l : List Edge2) (x : Edge2) : leadE l x < l.length → ltB (l.getD (leadE l x) (0, 0)) x = false := by
  induction l with
  | nil => intro h; simp at h
  | cons a r ih =>
    intro h
    simp only [leadE] at h ⊢
    split
    · rename_i h1
      rw [if_pos h1] at h
      simpa using ih (by simpa using h)
    · rename_i h1
      simpa using h1
theorem leadE_eq (l : List Edge2) (x : Edge2) (k : Nat) (hk : k ≤ l.length) (h1 : ∀ j, j < k → ltB (l.getD j (0, 0)) x = true) (h2 : k < l.length → ltB (l.getD k (0, 0)) x = false) : leadE l x = k := by
  rcases Nat.lt_trichotomy (leadE l x) k with h | h | h
  · have h3 := leadE_at l x (by omega)
    rw [h1 _ h] at h3; cases h3
  · exact h
  · have h3 := leadE_before l x k h
    rw [h2 (by have := leadE_le l x; omega)] at h3; cases h3
theorem addE_there (l : List Edge2) (x : Edge2) : leadE l x < l.length → l.getD (leadE l x) (0, 0) = x → addE l x = l := by
  induction l with
  | nil => intro h; simp at h
  | cons a r ih =>
    intro h h2
    simp only [leadE] at h h2
    simp only [addE]
    split
    · rename_i h1
      rw [if_pos h1] at h h2
      rw [ih (by simpa using h) (by simpa using h2)]
    · rename_i h1
      rw [if_neg h1] at h2
      rw [if_pos (by simpa using h2)]
theorem addE_new (l : List Edge2) (x : Edge2) : (leadE l x < l.length → l.getD (leadE l x) (0, 0) ≠ x) → addE l x = l.take (leadE l x) ++ [x] ++ l.drop (leadE l x) := by
  induction l with
  | nil => intro _; simp [addE, leadE]
  | cons a r ih =>
    intro h
    simp only [leadE] at h ⊢
    simp only [addE]
    split
    · rename_i h1
      rw [if_pos h1] at h
      rw [ih fun h3 h4 => h (by simpa using h3) (by simpa using h4)]
      simp
    · rename_i h1
      rw [if_neg h1] at h
      rw [if_neg fun h4 => h (by simp) (by simpa using h4)]
      simp
theorem addE_mem (l : List Edge2) (x y : Edge2) : y ∈ addE l x ↔ y = x ∨ y ∈ l := by
  induction l with
  | nil => simp [addE]
  | cons a r ih =>
    simp only [addE]
    split
    · simp only [List.mem_cons, ih]
      constructor
      · rintro (h | h | h)
        · exact .inr (.inl h)
        · exact .inl h
        · exact .inr (.inr h)
      · rintro (h | h | h)
        · exact .inr (.inl h)
        · exact .inl h
        · exact .inr (.inr h)
    · split
      · rename_i h
        subst h
        simp only [List.mem_cons]
        constructor
        · rintro (h | h)
          · exact .inl h
          · exact .inr (.inr h)
        · rintro (h | h | h)
          · exact .inl h
          · exact .inl h
          · exact .inr h
      · simp
theorem addE_rise (l : List Edge2) (x : Edge2) (h : Rise l) : Rise (addE l x) := by
  induction l with
  | nil => simp [addE, Rise]
  | cons a r ih =>
    obtain ⟨h1, h2⟩ := List.pairwise_cons.1 h
    simp only [addE]
    split
    · rename_i hx
      refine List.pairwise_cons.2 ⟨fun y hy => ?_, ih h2⟩
      rcases (addE_mem r x y).1 hy with rfl | hy
      · exact hx
      · exact h1 y hy
    · split
      · exact h
      · rename_i h3 h4
        refine List.pairwise_cons.2 ⟨fun y hy => ?_, h⟩
        have hxa : ltB x a = true := by
          rw [ltB_iff]
          have h5 : ¬ (a.1 < x.1 ∨ a.1 = x.1 ∧ a.2 < x.2) := fun hh => h3 (ltB_iff.2 hh)
          have h6 : ¬ (a.1 = x.1 ∧ a.2 = x.2) := fun hh => h4 (Prod.ext hh.1 hh.2)
          omega
        rcases List.mem_cons.1 hy with rfl | hy
        · exact hxa
        · have h7 := h1 y hy
          rw [ltB_iff] at hxa h7 ⊢
          omega
theorem addE_len (l : List Edge2) (x : Edge2) : (addE l x).length ≤ l.length + 1 := by
  induction l with
  | nil => simp [addE]
  | cons a r ih =>
    simp only [addE]
    split
    · simp; omega
    · split <;> simp
/-- Two lists that rise and have the same members are the same. -/
theorem rise_eq : ∀ (l m : List Edge2), Rise l → Rise m → (∀ e, e ∈ l ↔ e ∈ m) → l = m := by
  intro l
  induction l with
  | nil =>
    intro m _ _ h
    cases m with
    | nil => rfl
    | cons b s => exact absurd ((h b).2 (List.mem_cons_self ..)) (by simp)
  | cons a r ih =>
    intro m hl hm h
    cases m with
    | nil => exact absurd ((h a).1 (List.mem_cons_self ..)) (by simp)
    | cons b s =>
      obtain ⟨l1, l2⟩ := List.pairwise_cons.1 hl
      obtain ⟨m1, m2⟩ := List.pairwise_cons.1 hm
      have irr : ∀ e : Edge2, ltB e e = false := fun e => by simp [ltB]
      have hab : a = b := by
        rcases List.mem_cons.1 ((h a).1 (List.mem_cons_self ..)) with e | ha
        · exact e
        · rcases List.mem_cons.1 ((h b).2 (List.mem_cons_self ..)) with e | hb
          · exact e.symm
          · have k1 := m1 a ha
            have k2 := l1 b hb
            rw [ltB_iff] at k1 k2
            omega
      subst hab
      congr 1
      refine ih s l2 m2 fun e => ⟨fun he => ?_, fun he => ?_⟩
      · rcases List.mem_cons.1 ((h e).1 (List.mem_cons_of_mem _ he)) with rfl | h3
        · have := l1 e he
          rw [irr] at this; cases this
        · exact h3
      · rcases List.mem_cons.1 ((h e).2 (List.mem_cons_of_mem _ he)) with rfl | h3
        · have := m1 e he
          rw [irr] at this; cases this
        · exact h3

/-- All edges that may be, in order. -/
def allE : List Edge2 := (List.range 36).map fun n => (((n / 6 + 1 : Nat) : Int), ((n % 6 + 1 : Nat) : Int))
theorem allE_rise : Rise allE := by unfold Rise; decide
theorem mem_allE {a b : Int} (h1 : 1 ≤ a) (h2 : a ≤ 6) (h3 : 1 ≤ b) (h4 : b ≤ 6) : (a, b) ∈ allE := by
  unfold allE
  refine List.mem_map.2 ⟨6 * (a.toNat - 1) + (b.toNat - 1), List.mem_range.2 (by omega), ?_⟩
  refine Prod.ext ?_ ?_ <;> simp <;> omega
end Go.Proofs.YtmgadiopjofegaiDoor
