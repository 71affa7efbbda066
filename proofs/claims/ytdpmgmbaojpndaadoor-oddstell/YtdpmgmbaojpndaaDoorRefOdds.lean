/-
  PROVED HERE: laneref1.Odds answers as the plain test; of two ops that may be, that is whether they are at odds. lanesame.Edges says yes of two slices that hold the same list of edges. Old memory stays as it was.
  Conditions: none.
-/
import Derived.Test.YtdpmgmbaojpndaaDoorOddPairs
import Derived.Test.YtdpmgmbaojpndaaDoorRegion
namespace Go.Proofs.YtdpmgmbaojpndaaDoor
open Go.RowKit

def refOddB (o p : Op3) : Bool := o.1 != p.1 && (o.2.2 == p.2.2 && (decide (0 < o.2.2) && (o.2.1 == 2 || p.2.1 == 2)))
theorem write_item {o : Op3} (h : isOpB o = true) (hw : o.2.1 = 2) : 0 < o.2.2 := by
  simp [isOpB] at h
  have he : endsB o.2.1 = false := by rw [hw]; rfl
  simp [he] at h
  omega
theorem refOdd_eq {o p : Op3} (ho : isOpB o = true) (hp : isOpB p = true) : refOddB o p = oddB o p := by
  unfold refOddB oddB
  by_cases h1 : o.2.2 = p.2.2
  · by_cases h2 : o.2.1 = 2
    · have h4 : decide (0 < o.2.2) = true := by simpa using write_item ho h2
      rw [h4]; simp
    · by_cases h3 : p.2.1 = 2
      · have h5 := write_item hp h3
        rw [← h1] at h5
        have h4 : decide (0 < o.2.2) = true := by simpa using h5
        rw [h4]; simp
      · have h6 : (o.2.1 == 2 || p.2.1 == 2) = false := by simp [h2, h3]
        rw [h6]; simp
  · have h6 : (o.2.2 == p.2.2) = false := by simpa using h1
    rw [h6]; simp
set_option maxHeartbeats 4000000 in
theorem refOdds_any (t a i t2 a2 i2 : Int) (w : World) : Calls Tryd.prog 26 #[.agg #[.int .i64 t, .int .i64 a, .int .i64 i], .agg #[.int .i64 t2, .int .i64 a2, .int .i64 i2]] w fun e w' => e = .returned (.bool (refOddB (t, a, i) (t2, a2, i2))) ∧ w' = (w.alloc (.cells #[.int .i64 t, .int .i64 a, .int .i64 i] 50)).alloc (.cells #[.int .i64 t2, .int .i64 a2, .int .i64 i2] 50) := by
  go_enter Tryd.func26, Tryd.ntmps26
  go_wp2
  all_goals go_ret
  all_goals exact ⟨ret_bool (by first | (simp_all [refOddB]; done) | (simp_all [refOddB]; intros; omega)), by first | rfl | simp_all⟩
theorem refOdds_below (o p : Op3) (ho : isOpB o = true) (hp : isOpB p = true) (w : World) : Calls Tryd.prog 26 #[.agg #[.int .i64 o.1, .int .i64 o.2.1, .int .i64 o.2.2], .agg #[.int .i64 p.1, .int .i64 p.2.1, .int .i64 p.2.2]] w fun e w' => e = .returned (.bool (oddB o p)) ∧ Below w.heap.size w w' :=
  (refOdds_any o.1 o.2.1 o.2.2 p.1 p.2.1 p.2.2 w).mono fun _ _ ⟨he, hw⟩ => ⟨by rw [he, ← refOdd_eq ho hp], by rw [hw]; exact ((Below.refl _ w).alloc (Nat.le_refl _) _).alloc (by simp) _⟩

set_option maxHeartbeats 4000000 in
theorem same_edges (l : List Edge2) (v u : Value) (w : World) (hv : IsEdges w v l) (hu : IsEdges w u l) (hlen : l.length ≤ 140737488351) :
    Calls Tryd.prog 29 #[v, u] w fun e w' => e = .returned (.bool true) ∧ Below w.heap.size w w' := by
  obtain ⟨ad, b, off, cap, rfl, ha, _, hbB, hops⟩ := hv
  obtain ⟨ad2, b2, off2, cap2, rfl, ha2, _, hbB2, hops2⟩ := hu
  go_enter Tryd.func29, Tryd.ntmps29
  go_wp2
  go_loopw [5] (fun v5 wr => ∃ k : Nat, k ≤ l.length ∧ v5 = .int .i64 k ∧ Below w.heap.size w wr) (fun v5 _ => l.length - (intOf v5).toNat)
  case atStart => exact ⟨0, Nat.zero_le _, rfl, Below.refl _ _⟩
  case round =>
    obtain ⟨k, hk, rfl, hbel⟩ := hrel
    by_cases hlt : k < l.length
    · obtain rfl := ha (by omega)
      obtain rfl := ha2 (by omega)
      obtain ⟨c0, c1⟩ := (hops.below hbel hbB) k hlt
      obtain ⟨d0, d1⟩ := (hops2.below hbel hbB2) k hlt
      obtain ⟨⟨t, a⟩, ho⟩ : ∃ o : Edge2, l.getD k (0, 0) = o := ⟨_, rfl⟩
      rw [ho] at c0 c1 d0 d1
      simp only at c0 c1 d0 d1
      clear ho hops hops2 ha ha2 hbB hbB2
      go_wp2
      go_quiet (fail)
      go_wp2
      go_roundw
      case rel => exact ⟨k + 1, by omega, by go_num, below_drewN hbel _⟩
      case measure => simp [intOf]; omega
    · go_wp2
      go_ret
      exact ⟨rfl, hbel⟩
end Go.Proofs.YtdpmgmbaojpndaaDoor
