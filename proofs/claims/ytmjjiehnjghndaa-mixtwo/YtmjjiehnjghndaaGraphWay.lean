/-
  PROVED HERE: plain facts, with no word of the program: ways of at least one edge; what going along all edges from a deal on, once to each, sees.
  Conditions: none.
  (Of these, what the claim wants: the rest was left out.)
-/
import Derived.Test.YtmjjiehnjghndaaGraphPlain2
namespace Go.Proofs.Ytmjjiehnjghndaa

/-- A way of so many edges and one more. -/
def wayN (m : Step7) : Nat → Nat → Nat → Prop
  | 0, x, y => m x y = true
  | n + 1, x, y => ∃ z, m x z = true ∧ wayN m n z y
/-- A way of at least one edge. -/
def Way (m : Step7) (x y : Nat) : Prop := ∃ n, wayN m n x y
theorem Way.one {m : Step7} {x y : Nat} (h : m x y = true) : Way m x y := ⟨0, h⟩
theorem Way.more {m : Step7} {x y z : Nat} (h : m x y = true) (hw : Way m y z) : Way m x z := by
  obtain ⟨n, hn⟩ := hw
  exact ⟨n + 1, y, h, hn⟩
theorem way_ind {m : Step7} {R : Nat → Nat → Prop} (h1 : ∀ x y, m x y = true → R x y) (h2 : ∀ x y z, m x y = true → Way m y z → R y z → R x z) {x y : Nat} (h : Way m x y) : R x y := by
  obtain ⟨n, hn⟩ := h
  induction n generalizing x with
  | zero => exact h1 x y hn
  | succ n ih =>
    obtain ⟨z, hz, hn⟩ := hn
    exact h2 x z y hz ⟨n, hn⟩ (ih hn)
theorem Way.trans {m : Step7} {x y z : Nat} (h : Way m x y) (k : Way m y z) : Way m x z :=
  way_ind (R := fun a b => Way m b z → Way m a z) (fun _ _ h1 k => .more h1 k) (fun _ _ _ h1 _ ih k => .more h1 (ih k)) h k
theorem setS_same (s : Set7) (t : Nat) (x : Bool) : setS s t x t = x := by simp [setS]
theorem setS_other (s : Set7) {t y : Nat} (x : Bool) (h : y ≠ t) : setS s t x y = s y := by simp [setS, h]
end Go.Proofs.Ytmjjiehnjghndaa
