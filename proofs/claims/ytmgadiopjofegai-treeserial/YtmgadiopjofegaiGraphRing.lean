/-
  PROVED HERE: plain facts, with no word of the program: rings of so many that go on from a beginning, the first by numbers.
  Conditions: none.
  (Of these, what the claim wants: the rest was left out.)
-/
import Derived.Test.YtmgadiopjofegaiGraphWay
namespace Go.Proofs.Ytmgadiopjofegai

def lastN (r : List Nat) : Nat := r.getLastD 0
def headN (r : List Nat) : Nat := r.headD 0
/-- May a deal be the next? -/
def okB (m : Step7) (r : List Nat) (t : Nat) : Bool := r.isEmpty || m (lastN r) t
/-- A ring that goes on from a beginning by so many more. -/
def growF (m : Step7) : Nat → List Nat → Option (List Nat)
  | 0, r => if m (lastN r) (headN r) = true then some r else none
  | f + 1, r => [1, 2, 3, 4, 5, 6].findSome? fun t => if okB m r t = true then growF m f (r ++ [t]) else none
theorem okB_cons {m : Step7} {r : List Nat} {t : Nat} (h : r ≠ []) : okB m r t = m (lastN r) t := by
  cases r with
  | nil => exact absurd rfl h
  | cons a l => rfl
/-- Of so many, from nothing on; of the fewest. -/
def ringL (l : List Edge2) : Option (List Nat) := [1, 2, 3, 4, 5, 6].findSome? fun n => growF (stepsS l) n []
theorem growF_some {m : Step7} : ∀ (f : Nat) (r q : List Nat), growF m f r = some q → q.length = r.length + f := by
  intro f
  induction f with
  | zero =>
    intro r q h
    unfold growF at h
    split at h
    · rw [← Option.some.inj h]; rfl
    · cases h
  | succ f ih =>
    intro r q h
    unfold growF at h
    obtain ⟨t, _, h2⟩ := List.exists_of_findSome?_eq_some h
    split at h2
    · have := ih _ _ h2
      simp at this
      omega
    · cases h2
/-- Where it comes from. -/
theorem ring_from {l : List Edge2} {q : List Nat} (h : ringL l = some q) : ∃ n, 1 ≤ n ∧ n ≤ 6 ∧ growF (stepsS l) n [] = some q := by
  unfold ringL at h
  obtain ⟨n, hn, h2⟩ := List.exists_of_findSome?_eq_some h
  exact ⟨n, by simp at hn; omega, by simp at hn; omega, h2⟩
theorem ring_not {l : List Edge2} (h : ringL l = none) (n : Nat) (h1 : 1 ≤ n) (h6 : n ≤ 6) : growF (stepsS l) n [] = none := by
  unfold ringL at h
  rw [List.findSome?_eq_none_iff] at h
  exact h n (by simp; omega)
end Go.Proofs.Ytmgadiopjofegai
