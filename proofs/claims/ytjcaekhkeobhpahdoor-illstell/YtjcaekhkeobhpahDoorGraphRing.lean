/-
  PROVED HERE: plain facts, with no word of the program: rings of so many that go on from a beginning, the first by numbers.
  Conditions: none.
-/
import Derived.Test.YtjcaekhkeobhpahDoorGraphWay
namespace Go.Proofs.YtjcaekhkeobhpahDoor

def lastN (r : List Nat) : Nat := r.getLastD 0
def headN (r : List Nat) : Nat := r.headD 0
/-- May a deal be the next? -/
def okB (m : Step7) (r : List Nat) (t : Nat) : Bool := r.isEmpty || m (lastN r) t
/-- A ring that goes on from a beginning by so many more. -/
def growF (m : Step7) : Nat → List Nat → Option (List Nat)
  | 0, r => if m (lastN r) (headN r) = true then some r else none
  | f + 1, r => [1, 2, 3, 4, 5, 6].findSome? fun t => if okB m r t = true then growF m f (r ++ [t]) else none
theorem growF_hit {m : Step7} {f : Nat} {r q : List Nat} {t : Nat} (h1 : 1 ≤ t) (h6 : t ≤ 6) (ho : okB m r t = true) (hf : growF m f (r ++ [t]) = some q) (hno : ∀ j, 1 ≤ j → j < t → okB m r j = true → growF m f (r ++ [j]) = none) : growF m (f + 1) r = some q := by
  have hn : ∀ j, 1 ≤ j → j < t → (if okB m r j = true then growF m f (r ++ [j]) else none) = none := fun j a b => by
    by_cases h : okB m r j = true
    · rw [if_pos h]; exact hno j a b h
    · rw [if_neg h]
  have hh : (if okB m r t = true then growF m f (r ++ [t]) else none) = some q := by rw [if_pos ho]; exact hf
  unfold growF
  rcases (show t = 1 ∨ t = 2 ∨ t = 3 ∨ t = 4 ∨ t = 5 ∨ t = 6 by omega) with e | e | e | e | e | e <;> subst e
  · simp only [List.findSome?_cons, hh]
  · simp only [List.findSome?_cons, hh, hn 1 (by omega) (by omega)]
  · simp only [List.findSome?_cons, hh, hn 1 (by omega) (by omega), hn 2 (by omega) (by omega)]
  · simp only [List.findSome?_cons, hh, hn 1 (by omega) (by omega), hn 2 (by omega) (by omega), hn 3 (by omega) (by omega)]
  · simp only [List.findSome?_cons, hh, hn 1 (by omega) (by omega), hn 2 (by omega) (by omega), hn 3 (by omega) (by omega), hn 4 (by omega) (by omega)]
  · simp only [List.findSome?_cons, hh, hn 1 (by omega) (by omega), hn 2 (by omega) (by omega), hn 3 (by omega) (by omega), hn 4 (by omega) (by omega), hn 5 (by omega) (by omega)]
theorem growF_none {m : Step7} {f : Nat} {r : List Nat} (hno : ∀ j, 1 ≤ j → j < 7 → okB m r j = true → growF m f (r ++ [j]) = none) : growF m (f + 1) r = none := by
  unfold growF
  rw [List.findSome?_eq_none_iff]
  intro j hj
  have : 1 ≤ j ∧ j < 7 := by simp at hj; omega
  by_cases h : okB m r j = true
  · rw [if_pos h]; exact hno j this.1 this.2 h
  · rw [if_neg h]
theorem okB_nil (m : Step7) (t : Nat) : okB m [] t = true := rfl
theorem okB_cons {m : Step7} {r : List Nat} {t : Nat} (h : r ≠ []) : okB m r t = m (lastN r) t := by
  cases r with
  | nil => exact absurd rfl h
  | cons a l => rfl
/-- Of so many, from nothing on; of the fewest. -/
def ringL (l : List Edge2) : Option (List Nat) := [1, 2, 3, 4, 5, 6].findSome? fun n => growF (stepsS l) n []
theorem growF_some {m : Step7} : ∀ (f : Nat) (r q : List Nat), growF m f r = some q → q.length = r.length + f := by
  intro f
  induction f with
  | zero =>
    intro r q h
    unfold growF at h
    split at h
    · rw [← Option.some.inj h]; rfl
    · cases h
  | succ f ih =>
    intro r q h
    unfold growF at h
    obtain ⟨t, _, h2⟩ := List.exists_of_findSome?_eq_some h
    split at h2
    · have := ih _ _ h2
      simp at this
      omega
    · cases h2
theorem ring_hit {l : List Edge2} {n : Nat} {q : List Nat} (h1 : 1 ≤ n) (h6 : n ≤ 6) (hf : growF (stepsS l) n [] = some q) (hn : ∀ j, 1 ≤ j → j < n → growF (stepsS l) j [] = none) : ringL l = some q := by
  unfold ringL
  rcases (show n = 1 ∨ n = 2 ∨ n = 3 ∨ n = 4 ∨ n = 5 ∨ n = 6 by omega) with e | e | e | e | e | e <;> subst e
  · simp only [List.findSome?_cons, hf]
  · simp only [List.findSome?_cons, hf, hn 1 (by omega) (by omega)]
  · simp only [List.findSome?_cons, hf, hn 1 (by omega) (by omega), hn 2 (by omega) (by omega)]
  · simp only [List.findSome?_cons, hf, hn 1 (by omega) (by omega), hn 2 (by omega) (by omega), hn 3 (by omega) (by omega)]
  · simp only [List.findSome?_cons, hf, hn 1 (by omega) (by omega), hn 2 (by omega) (by omega), hn 3 (by omega) (by omega), hn 4 (by omega) (by omega)]
  · simp only [List.findSome?_cons, hf, hn 1 (by omega) (by omega), hn 2 (by omega) (by omega), hn 3 (by omega) (by omega), hn 4 (by omega) (by omega), hn 5 (by omega) (by omega)]
theorem ring_none {l : List Edge2} (hn : ∀ j, 1 ≤ j → j < 7 → growF (stepsS l) j [] = none) : ringL l = none := by
  unfold ringL
  rw [List.findSome?_eq_none_iff]
  intro j hj
  have : 1 ≤ j ∧ j < 7 := by simp at hj; omega
  exact hn j this.1 this.2
/-- Where it comes from. -/
theorem ring_from {l : List Edge2} {q : List Nat} (h : ringL l = some q) : ∃ n, 1 ≤ n ∧ n ≤ 6 ∧ growF (stepsS l) n [] = some q := by
  unfold ringL at h
  obtain ⟨n, hn, h2⟩ := List.exists_of_findSome?_eq_some h
  exact ⟨n, by simp at hn; omega, by simp at hn; omega, h2⟩
theorem ring_not {l : List Edge2} (h : ringL l = none) (n : Nat) (h1 : 1 ≤ n) (h6 : n ≤ 6) : growF (stepsS l) n [] = none := by
  unfold ringL at h
  rw [List.findSome?_eq_none_iff] at h
  exact h n (by simp; omega)
end Go.Proofs.YtjcaekhkeobhpahDoor
