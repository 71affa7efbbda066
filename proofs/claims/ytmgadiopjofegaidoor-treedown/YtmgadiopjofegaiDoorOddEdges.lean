/-
  PROVED HERE: plain facts on lists, with no word of the program: edges put in one by one, sorted and each once, are the same list as the possible edges, in order, of which only those are kept that are there.
  Conditions: none.
  (Of these, what the claim wants: the rest was left out.)
-/
import Derived.Test.YtmgadiopjofegaiDoorOddPlain
import Derived.Test.YtmgadiopjofegaiDoorBack
namespace Go.Proofs.YtmgadiopjofegaiDoor

def ltB (a x : Edge2) : Bool := decide (a.1 < x.1) || (a.1 == x.1 && decide (a.2 < x.2))
theorem ltB_iff {a x : Edge2} : ltB a x = true ↔ (a.1 < x.1 ∨ a.1 = x.1 ∧ a.2 < x.2) := by simp [ltB]
def Rise (l : List Edge2) : Prop := l.Pairwise fun a b => ltB a b = true
/-- Two lists that rise and have the same members are the same. -/
theorem rise_eq : ∀ (l m : List Edge2), Rise l → Rise m → (∀ e, e ∈ l ↔ e ∈ m) → l = m := by
  intro l
  induction l with
  | nil =>
    intro m _ _ h
    cases m with
    | nil => rfl
    | cons b s => exact absurd ((h b).2 (List.mem_cons_self ..)) (by simp)
  | cons a r ih =>
    intro m hl hm h
    cases m with
    | nil => exact absurd ((h a).1 (List.mem_cons_self ..)) (by simp)
    | cons b s =>
      obtain ⟨l1, l2⟩ := List.pairwise_cons.1 hl
      obtain ⟨m1, m2⟩ := List.pairwise_cons.1 hm
      have irr : ∀ e : Edge2, ltB e e = false := fun e => by simp [ltB]
      have hab : a = b := by
        rcases List.mem_cons.1 ((h a).1 (List.mem_cons_self ..)) with e | ha
        · exact e
        · rcases List.mem_cons.1 ((h b).2 (List.mem_cons_self ..)) with e | hb
          · exact e.symm
          · have k1 := m1 a ha
            have k2 := l1 b hb
            rw [ltB_iff] at k1 k2
            omega
      subst hab
      congr 1
      refine ih s l2 m2 fun e => ⟨fun he => ?_, fun he => ?_⟩
      · rcases List.mem_cons.1 ((h e).1 (List.mem_cons_of_mem _ he)) with rfl | h3
        · have := l1 e he
          rw [irr] at this; cases this
        · exact h3
      · rcases List.mem_cons.1 ((h e).2 (List.mem_cons_of_mem _ he)) with rfl | h3
        · have := m1 e he
          rw [irr] at this; cases this
        · exact h3

/-- All edges that may be, in order. -/
def allE : List Edge2 := (List.range 36).map fun n => (((n / 6 + 1 : Nat) : Int), ((n % 6 + 1 : Nat) : Int))
theorem allE_rise : Rise allE := by unfold Rise; decide
theorem mem_allE {a b : Int} (h1 : 1 ≤ a) (h2 : a ≤ 6) (h3 : 1 ≤ b) (h4 : b ≤ 6) : (a, b) ∈ allE := by
  unfold allE
  refine List.mem_map.2 ⟨6 * (a.toNat - 1) + (b.toNat - 1), List.mem_range.2 (by omega), ?_⟩
  refine Prod.ext ?_ ?_ <;> simp <;> omega
end Go.Proofs.YtmgadiopjofegaiDoor
