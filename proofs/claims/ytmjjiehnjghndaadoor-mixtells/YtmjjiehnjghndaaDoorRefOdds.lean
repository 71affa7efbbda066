/-
  PROVED HERE: laneref1.Odds answers as the plain test; of two ops that may be, that is whether they are at odds. Old memory stays as it was.
  Conditions: none.
-/
import Derived.Test.YtmjjiehnjghndaaDoorOddPair0
import Derived.Test.YtmjjiehnjghndaaDoorRegion
namespace Go.Proofs.YtmjjiehnjghndaaDoor
open Go.RowKit

def refOddB (o p : Op3) : Bool := o.1 != p.1 && (o.2.2 == p.2.2 && (decide (0 < o.2.2) && (o.2.1 == 2 || p.2.1 == 2)))
theorem write_item {o : Op3} (h : isOpB o = true) (hw : o.2.1 = 2) : 0 < o.2.2 := by
  simp [isOpB] at h
  have he : endsB o.2.1 = false := by rw [hw]; rfl
  simp [he] at h
  omega
theorem refOdd_eq {o p : Op3} (ho : isOpB o = true) (hp : isOpB p = true) : refOddB o p = oddB o p := by
  unfold refOddB oddB
  by_cases h1 : o.2.2 = p.2.2
  · by_cases h2 : o.2.1 = 2
    · have h4 : decide (0 < o.2.2) = true := by simpa using write_item ho h2
      rw [h4]; simp
    · by_cases h3 : p.2.1 = 2
      · have h5 := write_item hp h3
        rw [← h1] at h5
        have h4 : decide (0 < o.2.2) = true := by simpa using h5
        rw [h4]; simp
      · have h6 : (o.2.1 == 2 || p.2.1 == 2) = false := by simp [h2, h3]
        rw [h6]; simp
  · have h6 : (o.2.2 == p.2.2) = false := by simpa using h1
    rw [h6]; simp
set_option maxHeartbeats 4000000 in
theorem refOdds_any (t a i t2 a2 i2 : Int) (w : World) : Calls Tryd.prog 32 #[.agg #[.int .i64 t, .int .i64 a, .int .i64 i], .agg #[.int .i64 t2, .int .i64 a2, .int .i64 i2]] w fun e w' => e = .returned (.bool (refOddB (t, a, i) (t2, a2, i2))) ∧ w' = (w.alloc (.cells #[.int .i64 t, .int .i64 a, .int .i64 i] 57)).alloc (.cells #[.int .i64 t2, .int .i64 a2, .int .i64 i2] 57) := by
  go_enter Tryd.func32, Tryd.ntmps32
  go_wp2
  all_goals go_ret
  all_goals exact ⟨ret_bool (by first | (simp_all [refOddB]; done) | (simp_all [refOddB]; intros; omega)), by first | rfl | simp_all⟩
theorem refOdds_below (o p : Op3) (ho : isOpB o = true) (hp : isOpB p = true) (w : World) : Calls Tryd.prog 32 #[.agg #[.int .i64 o.1, .int .i64 o.2.1, .int .i64 o.2.2], .agg #[.int .i64 p.1, .int .i64 p.2.1, .int .i64 p.2.2]] w fun e w' => e = .returned (.bool (oddB o p)) ∧ Below w.heap.size w w' :=
  (refOdds_any o.1 o.2.1 o.2.2 p.1 p.2.1 p.2.2 w).mono fun _ _ ⟨he, hw⟩ => ⟨by rw [he, ← refOdd_eq ho hp], by rw [hw]; exact ((Below.refl _ w).alloc (Nat.le_refl _) _).alloc (by simp) _⟩
end Go.Proofs.YtmjjiehnjghndaaDoor
