/-
  PROVED HERE: laneref1.LockOdds, Lock, clear0 and without answer as the plain functions on lists of locks say; lanesame.Locks says yes of two slices that hold the same list of locks. Old memory stays as it was.
  Conditions: the lists are short.
  (Of these, what the claim wants: the rest was left out.)
  PROVED HERE: laneref1.Table's methods Waiting and hold, over a table in memory. Of the blocks that there were, only the table's own turn.
  Conditions: the lists are short.
  (Of these, what the claim wants: the rest was left out.)
-/
import Derived.Test.YtmjjiehnjghndaaGreatMgam
import Derived.Test.YtmjjiehnjghndaaGreatMgab
import Derived.Test.YtmjjiehnjghndaaGreatMgad
import Derived.Test.YtmjjiehnjghndaaGreatMgan
import Derived.OwnWalk
import Derived.Deep.Cut
import Derived.Maps.AppendAt
import Derived.Test.YtmjjiehnjghndaaGreatMgar
import Derived.Test.YtmjjiehnjghndaaGreatMgbh
namespace Go.Proofs.YtmjjiehnjghndaaGreat
open Go.RowKit

theorem infoLock : (Tryz.prog.info? 99).map (fun i => (i.zero, i.size, i.bytes)) = some (some (.agg #[.int .i64 0, .int .i64 0, .int .i64 0]), 3, 24) := by kernel_rfl
abbrev lkV (x : Op3) : Value := .agg #[.int .i64 x.1, .int .i64 x.2.1, .int .i64 x.2.2]
theorem lock_new (w : World) (x : Op3) (t : TypeId) : ∀ j u, (flat [x])[j]? = some u → (w.alloc (.cells #[.int .i64 x.1, .int .i64 x.2.1, .int .i64 x.2.2] t)).cell? ((⟨w.heap.size, 0, none⟩ : Addr).add j) = some u := by
  intro j u hj
  rw [Addr.add_lit]
  have hj3 : j < 3 := by simpa [flat] using (List.getElem?_eq_some_iff.1 hj).1
  rcases (show j = 0 ∨ j = 1 ∨ j = 2 by omega) with rfl | rfl | rfl
  all_goals
    simp [flat] at hj
    subst hj
    simp
end Go.Proofs.YtmjjiehnjghndaaGreat

namespace Go.Proofs.YtmjjiehnjghndaaGreat
open Go.RowKit

theorem row_cells {w : World} {base e n : Nat} {v : Value} {l : List Op3} (h : w.ownsRow base e 3 v n (flat l)) (hl : l.length = n) {k : Nat} (hk : k < n) : ∃ g c, v = .slice (some ⟨g, 0, none⟩) n c ∧ base ≤ g ∧ g < w.heap.size ∧ (∀ j, w.frozen? ⟨g, j, none⟩ = false) ∧ w.cell? ⟨g, k * 3, none⟩ = some (.int .i64 (opAt l k).1) ∧ w.cell? ⟨g, k * 3 + 1, none⟩ = some (.int .i64 (opAt l k).2.1) ∧ w.cell? ⟨g, k * 3 + 2, none⟩ = some (.int .i64 (opAt l k).2.2) := by
  obtain ⟨ad, c, hv, hg⟩ := own_slice3 h
  obtain ⟨g, rfl, h1, h2, h3⟩ := hg (by omega)
  refine ⟨g, c, hv, h1, h2, h3, ?_⟩
  obtain ⟨f0, f1, f2⟩ := flat_at l k (by omega)
  have hc := fun j u hj => h.cells (g := g) (by rw [hv]; rfl) j u hj
  refine ⟨?_, ?_, ?_⟩
  · have := hc _ _ f0; rw [Addr.add_lit, Nat.zero_add] at this; exact this
  · have := hc _ _ f1; rw [Addr.add_lit, Nat.zero_add] at this; exact this
  · have := hc _ _ f2; rw [Addr.add_lit, Nat.zero_add] at this; exact this
end Go.Proofs.YtmjjiehnjghndaaGreat
