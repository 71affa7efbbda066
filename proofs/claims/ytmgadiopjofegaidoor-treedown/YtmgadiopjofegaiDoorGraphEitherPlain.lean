/-
  PROVED HERE: plain facts, with no word of the program: edges have an order of the kind that the program makes just if they have no ring; in an order each deal stands behind those from which an edge leads to it; around a ring edges lead.
  Conditions: none.
  (Of these, what the claim wants: the rest was left out.)
-/
import Derived.Test.YtmgadiopjofegaiDoorGraphRing
namespace Go.Proofs.YtmgadiopjofegaiDoor

/-- One behind the other edges lead. -/
def lin (m : Step7) : List Nat → Bool
  | [] => true
  | x :: t => (match t with | [] => true | y :: _ => m x y) && lin m t
theorem lin_cons (m : Step7) (x y : Nat) (t : List Nat) : lin m (x :: y :: t) = (m x y && lin m (y :: t)) := rfl
theorem lin_at {m : Step7} : ∀ {r : List Nat} {i : Nat}, lin m r = true → i + 1 < r.length → m (r.getD i 0) (r.getD (i + 1) 0) = true := by
  intro r
  induction r with
  | nil => intro i _ h; simp at h
  | cons x t ih =>
    intro i h hi
    cases t with
    | nil => simp at hi
    | cons y t =>
      rw [lin_cons, Bool.and_eq_true] at h
      cases i with
      | zero => simpa using h.1
      | succ i =>
        have := ih h.2 (show i + 1 < (y :: t).length by simpa using hi)
        simpa using this
theorem lin_way {m : Step7} {r : List Nat} (h : lin m r = true) (i : Nat) : ∀ d, i + d + 1 < r.length → Way m (r.getD i 0) (r.getD (i + d + 1) 0) := by
  intro d
  induction d with
  | zero => intro hd; exact .one (lin_at h hd)
  | succ d ih => intro hd; exact (ih (by omega)).trans (.one (lin_at h (by omega)))
/-- A ring: edges lead around. -/
structure IsRing (m : Step7) (r : List Nat) : Prop where
  deal : ∀ k ∈ r, 1 ≤ k ∧ k ≤ 6
  line : lin m r = true
  shut : m (lastN r) (headN r) = true
theorem last_at (r : List Nat) : lastN r = r.getD (r.length - 1) 0 := by
  simp [lastN, List.getLastD_eq_getLast?, List.getLast?_eq_getElem?, List.getD]
theorem head_at (r : List Nat) : headN r = r.getD 0 0 := by cases r <;> rfl
/-- Around a ring there is a way from each to itself. -/
theorem IsRing.round {m : Step7} {r : List Nat} (h : IsRing m r) (i : Nat) (hi : i < r.length) : Way m (r.getD i 0) (r.getD i 0) := by
  have hs : Way m (r.getD (r.length - 1) 0) (r.getD 0 0) := .one (by rw [← last_at r, ← head_at]; exact h.shut)
  have h1 : i < r.length - 1 → Way m (r.getD i 0) (r.getD (r.length - 1) 0) := fun hlt => by
    have := lin_way h.line i (r.length - 1 - i - 1) (by omega)
    rwa [show i + (r.length - 1 - i - 1) + 1 = r.length - 1 by omega] at this
  have h2 : 0 < i → Way m (r.getD 0 0) (r.getD i 0) := fun hlt => by
    have := lin_way h.line 0 (i - 1) (by omega)
    rwa [show 0 + (i - 1) + 1 = i by omega] at this
  have h3 : Way m (r.getD i 0) (r.getD 0 0) := by
    rcases Nat.lt_or_ge i (r.length - 1) with hlt | hge
    · exact (h1 hlt).trans hs
    · rw [show i = r.length - 1 by omega]; exact hs
  rcases Nat.eq_zero_or_pos i with h0 | h0
  · rw [h0] at h3 ⊢; exact h3
  · exact h3.trans (h2 h0)
theorem IsRing.edge {m : Step7} {r : List Nat} (h : IsRing m r) (i : Nat) (hi : i < r.length) : m (r.getD i 0) (r.getD ((i + 1) % r.length) 0) = true := by
  rcases Nat.lt_or_ge (i + 1) r.length with hlt | hge
  · rw [Nat.mod_eq_of_lt hlt]; exact lin_at h.line hlt
  · have e : i + 1 = r.length := by omega
    rw [e, Nat.mod_self, show i = r.length - 1 by omega, ← last_at r, ← head_at]
    exact h.shut
end Go.Proofs.YtmgadiopjofegaiDoor
