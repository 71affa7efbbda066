/-
  PROVED HERE: lanelaw2.ValidSerial answers true, of any ops, over whatever keeps RunsC of chapter 11.
  Conditions: RunsC.
-/
import Derived.Test.YtccjognnehoodagVaSerPlain
import Derived.Test.YtccjognnehoodagKindBy
namespace Go.Proofs.Ytccjognnehoodag
open Go.RowKit

def four1 : List Op3 := [(1, 1, 1), (2, 2, 1), (2, 3, 0), (1, 3, 0)]
theorem four_at (W : World) : IsOps (W.alloc (.cells #[.int .i64 1, .int .i64 1, .int .i64 1, .int .i64 2, .int .i64 2, .int .i64 1, .int .i64 2, .int .i64 3, .int .i64 0, .int .i64 1, .int .i64 3, .int .i64 0] 24)) (.slice (some ⟨W.heap.size, 0, none⟩) 4 4) four1 := by
  refine ⟨some ⟨W.heap.size, 0, none⟩, W.heap.size, 0, 4, rfl, fun _ => rfl, fun h => (by cases h), .inl (by simp), opsAt_of fun j u hj => ?_⟩
  rw [Nat.zero_add]
  match j, hj with
  | 0, hj => simp [flat, four1] at hj; subst hj; simp
  | 1, hj => simp [flat, four1] at hj; subst hj; simp
  | 2, hj => simp [flat, four1] at hj; subst hj; simp
  | 3, hj => simp [flat, four1] at hj; subst hj; simp
  | 4, hj => simp [flat, four1] at hj; subst hj; simp
  | 5, hj => simp [flat, four1] at hj; subst hj; simp
  | 6, hj => simp [flat, four1] at hj; subst hj; simp
  | 7, hj => simp [flat, four1] at hj; subst hj; simp
  | 8, hj => simp [flat, four1] at hj; subst hj; simp
  | 9, hj => simp [flat, four1] at hj; subst hj; simp
  | 10, hj => simp [flat, four1] at hj; subst hj; simp
  | 11, hj => simp [flat, four1] at hj; subst hj; simp
  | k + 12, hj => simp [flat, four1] at hj
theorem four_done : (outU 1 okV false four1).1.1 = [2] ∧ (outU 1 okV false four1).2 = 0 := by decide
end Go.Proofs.Ytccjognnehoodag
