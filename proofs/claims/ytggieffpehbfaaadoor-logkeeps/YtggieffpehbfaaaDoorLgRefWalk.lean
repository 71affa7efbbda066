/-
  PROVED HERE: lanelaw4.LogRefuses returns true, whatever the numbers, if package log answers as it is asked; old memory stays as it was.
  Conditions: package log's contract (LogW); the variable errors.errorType lies as it should (EtAt).
  (Of these, what the claim wants: the rest was left out.)
-/
import Derived.Test.YtggieffpehbfaaaDoorLgAsk
import Derived.Test.YtggieffpehbfaaaDoorTold
namespace Go.Proofs.YtggieffpehbfaaaDoor
open Go.RowKit

theorem do_does {s s' : Lg} {o : Op3} {r : Int} (h : DoR s o r s') (h0 : s.stop = false) (hc : (chk (s.hist ++ [o])).2 = 0) (hl : s.left ≠ some 0) : r = 0 ∧ ∃ n, 2 ≤ n ∧ n ≤ 1000 ∧ s' = ⟨s.hist ++ [o], s.ends ++ [s.bytes + n], s.bytes + n, s.safe, lessO s.left, false⟩ := by
  rcases h with ⟨a1, rfl, rfl⟩ | ⟨a1, a2, rfl, rfl⟩ | ⟨n, a1, a2, a3, a4, a5, rfl, rfl⟩ | ⟨n, a1, a2, a3, a4, a5, rfl, rfl⟩
  · rw [h0] at a1; cases a1
  · exact absurd hc a2
  · exact absurd a3 hl
  · exact ⟨rfl, n, a4, a5, rfl⟩
end Go.Proofs.YtggieffpehbfaaaDoor
