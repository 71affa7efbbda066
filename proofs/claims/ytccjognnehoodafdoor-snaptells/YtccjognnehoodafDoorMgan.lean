/-
  PROVED HERE: a square of bools (from which deal to which) in a block of memory, and what becomes of it when one of them is set, when memory is made, and when old memory stays.
  Conditions: none.
  PROVED HERE: plain facts, with no word of the program: ways by more and more deals between, one deal behind the other (Warshall), are all ways.
  Conditions: none.
-/
import Derived.Test.YtccjognnehoodafDoorMgam
import Derived.Laws.Rows
import Derived.Laws.CopyOwn
import Derived.Test.YtccjognnehoodafDoorMgak
namespace Go.Proofs.YtccjognnehoodafDoor
open Go.RowKit

/-- Two numbers as one. -/
def flatS (s : Step7) : Set7 := fun k => s (k / 7) (k % 7)
def cells49 (s : Step7) : Array Value := ((List.range 49).map fun k => Value.bool (flatS s k)).toArray
theorem cells49_size (s : Step7) : (cells49 s).size = 49 := by simp [cells49]
theorem cells49_at (s : Step7) (k : Nat) (h : k < 49) : (cells49 s)[k]? = some (.bool (flatS s k)) := by simp [cells49, h]
theorem cells49_one (s : Step7) : (cells49 s).all (·.oneCell') = true := by
  rw [Array.all_eq_true_iff_forall_mem]
  intro v hv
  simp only [cells49, List.mem_toArray, List.mem_map] at hv
  obtain ⟨k, _, rfl⟩ := hv
  rfl
theorem flat_two (i k : Nat) (hk : k < 7) (s : Step7) : flatS s (i * 7 + k) = s i k := by
  unfold flatS
  rw [show (i * 7 + k) / 7 = i by omega, show (i * 7 + k) % 7 = k by omega]
def setM (s : Step7) (t a : Nat) : Step7 := fun i k => if i = t ∧ k = a then true else s i k
theorem cells49_set (s : Step7) (t a : Nat) (ha : a < 7) : (cells49 s).setIfInBounds (t * 7 + a) (.bool true) = cells49 (setM s t a) := by
  refine Array.ext_getElem? fun j => ?_
  rw [Array.getElem?_setIfInBounds, cells49_size]
  by_cases hj : j < 49
  · rw [cells49_at _ j hj, cells49_at _ j hj]
    unfold flatS setM
    by_cases e : t * 7 + a = j
    · rw [if_pos e, if_pos (by omega), if_pos (by omega)]
    · rw [if_neg e, if_neg (by omega)]
  · have h1 : ∀ r, (cells49 r)[j]? = none := fun r => Array.getElem?_eq_none (by rw [cells49_size]; omega)
    rw [h1, h1]
    by_cases e : t * 7 + a = j
    · rw [if_pos e, if_neg (by omega)]
    · rw [if_neg e]
end Go.Proofs.YtccjognnehoodafDoor

namespace Go.Proofs.YtccjognnehoodafDoor

/-- A place of the square ahead of another one. -/
def befB (i k a b : Nat) : Bool := decide (1 ≤ a ∧ a ≤ 6 ∧ 1 ≤ b ∧ b ≤ 6 ∧ (a < i ∨ (a = i ∧ b < k)))
/-- By one deal more, as far as the loops have come. -/
def partW (W : Step7) (m i k : Nat) : Step7 := fun a b => W a b || (befB i k a b && (W a m && W m b))
theorem part_col (W : Step7) (m i k a : Nat) : partW W m i k a m = W a m := by
  unfold partW
  cases W a m <;> simp
theorem part_row (W : Step7) (m i k b : Nat) : partW W m i k m b = W m b := by
  unfold partW
  cases W m b <;> simp
theorem part_start (W : Step7) (m : Nat) : partW W m 1 1 = W := by
  funext a b
  unfold partW
  have : befB 1 1 a b = false := by unfold befB; simp; omega
  rw [this]; simp
theorem part_line (W : Step7) (m i : Nat) : partW W m i 7 = partW W m (i + 1) 1 := by
  funext a b
  unfold partW
  have : befB i 7 a b = befB (i + 1) 1 a b := by unfold befB; rw [decide_eq_decide]; omega
  rw [this]
theorem part_set (W : Step7) (m i k : Nat) (hi : 1 ≤ i ∧ i ≤ 6) (hk : 1 ≤ k ∧ k ≤ 6) (h : (W i m && W m k) = true) : setM (partW W m i k) i k = partW W m i (k + 1) := by
  funext a b
  unfold setM partW
  by_cases e : a = i ∧ b = k
  · rw [if_pos e, e.1, e.2, h]
    have : befB i (k + 1) i k = true := by unfold befB; simp; omega
    rw [this]; simp
  · rw [if_neg e]
    have : befB i k a b = befB i (k + 1) a b := by unfold befB; rw [decide_eq_decide]; omega
    rw [this]
theorem part_skip (W : Step7) (m i k : Nat) (h : (W i m && W m k) = false) : partW W m i k = partW W m i (k + 1) := by
  funext a b
  unfold partW
  by_cases e : a = i ∧ b = k
  · rw [e.1, e.2, h]; simp
  · have : befB i k a b = befB i (k + 1) a b := by unfold befB; rw [decide_eq_decide]; omega
    rw [this]
def warTo (l : List Edge2) : Nat → Step7
  | 0 => stepsS l
  | n + 1 => partW (warTo l n) (n + 1) 7 1
theorem war_sound (l : List Edge2) : ∀ n i k, warTo l n i k = true → Way (stepsS l) i k := by
  intro n
  induction n with
  | zero => intro i k h; exact .one h
  | succ n ih =>
    intro i k h
    unfold warTo partW at h
    simp only [Bool.or_eq_true, Bool.and_eq_true] at h
    rcases h with h | ⟨_, h1, h2⟩
    · exact ih _ _ h
    · exact (ih _ _ h1).trans (ih _ _ h2)
theorem war_more (l : List Edge2) (n i k : Nat) (h : warTo l n i k = true) : warTo l (n + 1) i k = true := by
  unfold warTo partW
  rw [h]; rfl
theorem war_base (l : List Edge2) : ∀ n i k, stepsS l i k = true → warTo l n i k = true := by
  intro n
  induction n with
  | zero => intro i k h; exact h
  | succ n ih => intro i k h; exact war_more l n i k (ih i k h)
def Deal (i : Nat) : Prop := 1 ≤ i ∧ i ≤ 6
theorem war_step {l : List Edge2} {n i k : Nat} (hi : Deal i) (hk : Deal k) : warTo l (n + 1) i k = (warTo l n i k || (warTo l n i (n + 1) && warTo l n (n + 1) k)) := by
  show partW (warTo l n) (n + 1) 7 1 i k = _
  unfold partW
  have : befB 7 1 i k = true := by unfold befB; unfold Deal at hi hk; simp; omega
  rw [this, Bool.true_and]
theorem war_shut (l : List Edge2) : ∀ n, n ≤ 6 → ∀ j, 1 ≤ j → j ≤ n → ∀ i k, Deal i → Deal k → warTo l n i j = true → warTo l n j k = true → warTo l n i k = true := by
  intro n
  induction n with
  | zero => intro _ j h1 h2; omega
  | succ n ih =>
    intro hn j h1 h2 i k hi hk hij hjk
    have hm : Deal (n + 1) := ⟨by omega, hn⟩
    have hj : Deal j := ⟨h1, by omega⟩
    have ih' := ih (by omega)
    rw [war_step hi hj] at hij
    rw [war_step hj hk] at hjk
    rw [war_step hi hk]
    simp only [Bool.or_eq_true, Bool.and_eq_true] at hij hjk ⊢
    by_cases e : j = n + 1
    · subst e
      have a1 : warTo l n i (n + 1) = true := by rcases hij with h | h; exact h; exact h.1
      have a2 : warTo l n (n + 1) k = true := by rcases hjk with h | h; exact h; exact h.2
      exact .inr ⟨a1, a2⟩
    · have hjn : j ≤ n := by omega
      rcases hij with h | ⟨h, h'⟩
      · rcases hjk with g | ⟨g, g'⟩
        · exact .inl (ih' j h1 hjn i k hi hk h g)
        · exact .inr ⟨ih' j h1 hjn i (n + 1) hi hm h g, g'⟩
      · rcases hjk with g | ⟨g, g'⟩
        · exact .inr ⟨h, ih' j h1 hjn (n + 1) k hm hk h' g⟩
        · exact .inr ⟨h, g'⟩
theorem war_full {l : List Edge2} (hr : Right l) {i k : Nat} (h : Way (stepsS l) i k) : warTo l 6 i k = true := by
  have h2 : warTo l 6 i k = true ∧ Deal i ∧ Deal k := way_ind (R := fun i k => warTo l 6 i k = true ∧ Deal i ∧ Deal k)
    (fun x y e => ⟨war_base l 6 x y e, (steps_lt hr e).1, (steps_lt hr e).2⟩)
    (fun x y z e _ ih => ⟨war_shut l 6 (by omega) y (steps_lt hr e).2.1 (steps_lt hr e).2.2 x z (steps_lt hr e).1 ih.2.2 (war_base l 6 x y e) ih.1, (steps_lt hr e).1, ih.2.2⟩) h
  exact h2.1
theorem war_way {l : List Edge2} (hr : Right l) (i k : Nat) : warTo l 6 i k = true ↔ Way (stepsS l) i k := ⟨war_sound l 6 i k, war_full hr⟩
end Go.Proofs.YtccjognnehoodafDoor
