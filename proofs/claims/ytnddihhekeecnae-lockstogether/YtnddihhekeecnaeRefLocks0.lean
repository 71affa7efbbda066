/-
  PROVED HERE: laneref1.LockOdds, Lock, clear0 and without answer as the plain functions on lists of locks say; lanesame.Locks says yes of two slices that hold the same list of locks. Old memory stays as it was.
  Conditions: the lists are short.
-/
import Derived.Test.YtnddihhekeecnaeLocksPlain
import Derived.Test.YtnddihhekeecnaeOddPlain
import Derived.Test.YtnddihhekeecnaeOps
import Derived.Test.YtnddihhekeecnaeRegion
import Derived.OwnWalk
import Derived.Deep.Cut
import Derived.Maps.AppendAt
namespace Go.Proofs.Ytnddihhekeecnae
open Go.RowKit

theorem infoLock : (Try.prog.info? 29).map (fun i => (i.zero, i.size, i.bytes)) = some (some (.agg #[.int .i64 0, .int .i64 0, .int .i64 0]), 3, 24) := by kernel_rfl
abbrev lkV (x : Op3) : Value := .agg #[.int .i64 x.1, .int .i64 x.2.1, .int .i64 x.2.2]
theorem clear_step {l : List Op3} {k : Nat} {x : Op3} (hk : k < l.length) : clearL (l.take (k + 1)) x = (clearL (l.take k) x && !lodd (opAt l k) x) := by
  rw [List.take_succ_eq_append_getElem hk]
  have : l[k] = opAt l k := by simp [opAt, List.getD, List.getElem?_eq_getElem hk]
  simp [clearL, this]
theorem clear_hit {l : List Op3} {k : Nat} {x : Op3} (hk : k < l.length) (h : lodd (opAt l k) x = true) : clearL l x = false := by
  have hm := opAt_mem hk
  cases hc : clearL l x with
  | false => rfl
  | true => rw [clearL_iff.1 hc _ hm] at h; cases h
theorem without_step {l : List Op3} {k : Nat} {t : Int} (hk : k < l.length) : withoutL (l.take (k + 1)) t = withoutL (l.take k) t ++ (if (opAt l k).1 = t then [] else [opAt l k]) := by
  rw [List.take_succ_eq_append_getElem hk]
  have : l[k] = opAt l k := by simp [opAt, List.getD, List.getElem?_eq_getElem hk]
  rw [this]
  unfold withoutL
  rw [List.filter_append]
  congr 1
  by_cases h : (opAt l k).1 = t
  · simp [h]
  · simp [h]
theorem lock_new (w : World) (x : Op3) (t : TypeId) : ∀ j u, (flat [x])[j]? = some u → (w.alloc (.cells #[.int .i64 x.1, .int .i64 x.2.1, .int .i64 x.2.2] t)).cell? ((⟨w.heap.size, 0, none⟩ : Addr).add j) = some u := by
  intro j u hj
  rw [Addr.add_lit]
  have hj3 : j < 3 := by simpa [flat] using (List.getElem?_eq_some_iff.1 hj).1
  rcases (show j = 0 ∨ j = 1 ∨ j = 2 by omega) with rfl | rfl | rfl
  all_goals
    simp [flat] at hj
    subst hj
    simp
end Go.Proofs.Ytnddihhekeecnae
