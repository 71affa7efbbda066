/-
  PROVED HERE: laneref1.LockOdds, Lock, clear0 and without answer as the plain functions on lists of locks say; lanesame.Locks says yes of two slices that hold the same list of locks. Old memory stays as it was.
  Conditions: the lists are short.
-/
import Derived.Test.YtnddihhekeecnadLocksPlain
import Derived.Test.YtnddihhekeecnadOddPlain
import Derived.Test.YtnddihhekeecnadOps
import Derived.Test.YtnddihhekeecnadRegion
import Derived.OwnWalk
import Derived.Deep.Cut
import Derived.Maps.AppendAt
namespace Go.Proofs.Ytnddihhekeecnad
open Go.RowKit

theorem infoLock : (Try.prog.info? 59).map (fun i => (i.zero, i.size, i.bytes)) = some (some (.agg #[.int .i64 0, .int .i64 0, .int .i64 0]), 3, 24) := by kernel_rfl
abbrev lkV (x : Op3) : Value := .agg #[.int .i64 x.1, .int .i64 x.2.1, .int .i64 x.2.2]
set_option maxHeartbeats 4000000 in
theorem lockOdds_raw (t i m t2 i2 m2 : Int) (w : World) : Calls Try.prog 29 #[.agg #[.int .i64 t, .int .i64 i, .int .i64 m], .agg #[.int .i64 t2, .int .i64 i2, .int .i64 m2]] w fun e w' => e = .returned (.bool (lodd (t, i, m) (t2, i2, m2))) ∧ w' = (w.alloc (.cells #[.int .i64 t, .int .i64 i, .int .i64 m] 59)).alloc (.cells #[.int .i64 t2, .int .i64 i2, .int .i64 m2] 59) := by
  go_enter Try.func29, Try.ntmps29
  go_wp2
  all_goals go_ret
  all_goals exact ⟨ret_bool (by first | (simp_all [lodd]; done) | (simp_all [lodd]; intros; omega)), by first | rfl | simp_all⟩
theorem lockOdds_any (a b : Op3) (w : World) : Calls Try.prog 29 #[lkV a, lkV b] w fun e w' => e = .returned (.bool (lodd a b)) ∧ Below w.heap.size w w' :=
  (lockOdds_raw a.1 a.2.1 a.2.2 b.1 b.2.1 b.2.2 w).mono fun _ _ ⟨he, hw⟩ => ⟨he, by rw [hw]; exact ((Below.refl _ w).alloc (Nat.le_refl _) _).alloc (by simp) _⟩
theorem clear_step {l : List Op3} {k : Nat} {x : Op3} (hk : k < l.length) : clearL (l.take (k + 1)) x = (clearL (l.take k) x && !lodd (opAt l k) x) := by
  rw [List.take_succ_eq_append_getElem hk]
  have : l[k] = opAt l k := by simp [opAt, List.getD, List.getElem?_eq_getElem hk]
  simp [clearL, this]
theorem clear_hit {l : List Op3} {k : Nat} {x : Op3} (hk : k < l.length) (h : lodd (opAt l k) x = true) : clearL l x = false := by
  have hm := opAt_mem hk
  cases hc : clearL l x with
  | false => rfl
  | true => rw [clearL_iff.1 hc _ hm] at h; cases h
theorem without_step {l : List Op3} {k : Nat} {t : Int} (hk : k < l.length) : withoutL (l.take (k + 1)) t = withoutL (l.take k) t ++ (if (opAt l k).1 = t then [] else [opAt l k]) := by
  rw [List.take_succ_eq_append_getElem hk]
  have : l[k] = opAt l k := by simp [opAt, List.getD, List.getElem?_eq_getElem hk]
  rw [this]
  unfold withoutL
  rw [List.filter_append]
  congr 1
  by_cases h : (opAt l k).1 = t
  · simp [h]
  · simp [h]
theorem lock_new (w : World) (x : Op3) (t : TypeId) : ∀ j u, (flat [x])[j]? = some u → (w.alloc (.cells #[.int .i64 x.1, .int .i64 x.2.1, .int .i64 x.2.2] t)).cell? ((⟨w.heap.size, 0, none⟩ : Addr).add j) = some u := by
  intro j u hj
  rw [Addr.add_lit]
  have hj3 : j < 3 := by simpa [flat] using (List.getElem?_eq_some_iff.1 hj).1
  rcases (show j = 0 ∨ j = 1 ∨ j = 2 by omega) with rfl | rfl | rfl
  all_goals
    simp [flat] at hj
    subst hj
    simp
end Go.Proofs.Ytnddihhekeecnad
