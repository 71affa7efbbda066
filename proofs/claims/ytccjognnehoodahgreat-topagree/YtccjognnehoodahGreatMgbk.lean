/-
  PROVED HERE: laneref1.LockOdds, Lock, clear0 and without answer as the plain functions on lists of locks say; lanesame.Locks says yes of two slices that hold the same list of locks. Old memory stays as it was.
  Conditions: the lists are short.
  PROVED HERE: laneref1.Table's methods Waiting and hold, over a table in memory. Of the blocks that there were, only the table's own turn.
  Conditions: the lists are short.
-/
import Derived.Test.YtccjognnehoodahGreatMgad
import Derived.Test.YtccjognnehoodahGreatMgab
import Derived.Test.YtccjognnehoodahGreatMgaf
import Derived.OwnWalk
import Derived.Deep.Cut
import Derived.Maps.AppendAt
import Derived.Test.YtccjognnehoodahGreatMgaw
import Derived.Test.YtccjognnehoodahGreatMgax
namespace Go.Proofs.YtccjognnehoodahGreat
open Go.RowKit

theorem infoLock : (Tryz.prog.info? 166).map (fun i => (i.zero, i.size, i.bytes)) = some (some (.agg #[.int .i64 0, .int .i64 0, .int .i64 0]), 3, 24) := by kernel_rfl
abbrev lkV (x : Op3) : Value := .agg #[.int .i64 x.1, .int .i64 x.2.1, .int .i64 x.2.2]
theorem clear_step {l : List Op3} {k : Nat} {x : Op3} (hk : k < l.length) : clearL (l.take (k + 1)) x = (clearL (l.take k) x && !lodd (opAt l k) x) := by
  rw [List.take_succ_eq_append_getElem hk]
  have : l[k] = opAt l k := by simp [opAt, List.getD, List.getElem?_eq_getElem hk]
  simp [clearL, this]
theorem clear_hit {l : List Op3} {k : Nat} {x : Op3} (hk : k < l.length) (h : lodd (opAt l k) x = true) : clearL l x = false := by
  have hm := opAt_mem hk
  cases hc : clearL l x with
  | false => rfl
  | true => rw [clearL_iff.1 hc _ hm] at h; cases h
theorem without_step {l : List Op3} {k : Nat} {t : Int} (hk : k < l.length) : withoutL (l.take (k + 1)) t = withoutL (l.take k) t ++ (if (opAt l k).1 = t then [] else [opAt l k]) := by
  rw [List.take_succ_eq_append_getElem hk]
  have : l[k] = opAt l k := by simp [opAt, List.getD, List.getElem?_eq_getElem hk]
  rw [this]
  unfold withoutL
  rw [List.filter_append]
  congr 1
  by_cases h : (opAt l k).1 = t
  · simp [h]
  · simp [h]
theorem lock_new (w : World) (x : Op3) (t : TypeId) : ∀ j u, (flat [x])[j]? = some u → (w.alloc (.cells #[.int .i64 x.1, .int .i64 x.2.1, .int .i64 x.2.2] t)).cell? ((⟨w.heap.size, 0, none⟩ : Addr).add j) = some u := by
  intro j u hj
  rw [Addr.add_lit]
  have hj3 : j < 3 := by simpa [flat] using (List.getElem?_eq_some_iff.1 hj).1
  rcases (show j = 0 ∨ j = 1 ∨ j = 2 by omega) with rfl | rfl | rfl
  all_goals
    simp [flat] at hj
    subst hj
    simp
end Go.Proofs.YtccjognnehoodahGreat

namespace Go.Proofs.YtccjognnehoodahGreat
open Go.RowKit

theorem row_cells {w : World} {base e n : Nat} {v : Value} {l : List Op3} (h : w.ownsRow base e 3 v n (flat l)) (hl : l.length = n) {k : Nat} (hk : k < n) : ∃ g c, v = .slice (some ⟨g, 0, none⟩) n c ∧ base ≤ g ∧ g < w.heap.size ∧ (∀ j, w.frozen? ⟨g, j, none⟩ = false) ∧ w.cell? ⟨g, k * 3, none⟩ = some (.int .i64 (opAt l k).1) ∧ w.cell? ⟨g, k * 3 + 1, none⟩ = some (.int .i64 (opAt l k).2.1) ∧ w.cell? ⟨g, k * 3 + 2, none⟩ = some (.int .i64 (opAt l k).2.2) := by
  obtain ⟨ad, c, hv, hg⟩ := own_slice3 h
  obtain ⟨g, rfl, h1, h2, h3⟩ := hg (by omega)
  refine ⟨g, c, hv, h1, h2, h3, ?_⟩
  obtain ⟨f0, f1, f2⟩ := flat_at l k (by omega)
  have hc := fun j u hj => h.cells (g := g) (by rw [hv]; rfl) j u hj
  refine ⟨?_, ?_, ?_⟩
  · have := hc _ _ f0; rw [Addr.add_lit, Nat.zero_add] at this; exact this
  · have := hc _ _ f1; rw [Addr.add_lit, Nat.zero_add] at this; exact this
  · have := hc _ _ f2; rw [Addr.add_lit, Nat.zero_add] at this; exact this
theorem waits_take {l : List Op3} {t : Int} (h : ∀ j, j < l.length → (opAt l j).1 ≠ t) : waitsB l t = false := by
  cases hh : waitsB l t with
  | false => rfl
  | true =>
    simp only [waitsB, List.any_eq_true, beq_iff_eq] at hh
    obtain ⟨y, hy, he⟩ := hh
    obtain ⟨i, hi, rfl⟩ := List.mem_iff_getElem.1 hy
    exact absurd (by simpa [opAt, List.getD, hi] using he) (h i hi)
theorem waits_hit {l : List Op3} {t : Int} {j : Nat} (hj : j < l.length) (h : (opAt l j).1 = t) : waitsB l t = true := by
  simp only [waitsB, List.any_eq_true, beq_iff_eq]
  exact ⟨_, opAt_mem hj, h⟩
end Go.Proofs.YtccjognnehoodahGreat
