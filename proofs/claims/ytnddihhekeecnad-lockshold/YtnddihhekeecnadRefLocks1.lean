/-
  PROVED HERE: laneref1.Table's methods Waiting and hold, over a table in memory. Of the blocks that there were, only the table's own turn.
  Conditions: the lists are short.
-/
import Derived.Test.YtnddihhekeecnadRefLocks0
import Derived.Test.YtnddihhekeecnadLocksMem
import Derived.Test.YtnddihhekeecnadAppendApart
namespace Go.Proofs.Ytnddihhekeecnad
open Go.RowKit

theorem row_cells {w : World} {base e n : Nat} {v : Value} {l : List Op3} (h : w.ownsRow base e 3 v n (flat l)) (hl : l.length = n) {k : Nat} (hk : k < n) : ∃ g c, v = .slice (some ⟨g, 0, none⟩) n c ∧ base ≤ g ∧ g < w.heap.size ∧ (∀ j, w.frozen? ⟨g, j, none⟩ = false) ∧ w.cell? ⟨g, k * 3, none⟩ = some (.int .i64 (opAt l k).1) ∧ w.cell? ⟨g, k * 3 + 1, none⟩ = some (.int .i64 (opAt l k).2.1) ∧ w.cell? ⟨g, k * 3 + 2, none⟩ = some (.int .i64 (opAt l k).2.2) := by
  obtain ⟨ad, c, hv, hg⟩ := own_slice3 h
  obtain ⟨g, rfl, h1, h2, h3⟩ := hg (by omega)
  refine ⟨g, c, hv, h1, h2, h3, ?_⟩
  obtain ⟨f0, f1, f2⟩ := flat_at l k (by omega)
  have hc := fun j u hj => h.cells (g := g) (by rw [hv]; rfl) j u hj
  refine ⟨?_, ?_, ?_⟩
  · have := hc _ _ f0; rw [Addr.add_lit, Nat.zero_add] at this; exact this
  · have := hc _ _ f1; rw [Addr.add_lit, Nat.zero_add] at this; exact this
  · have := hc _ _ f2; rw [Addr.add_lit, Nat.zero_add] at this; exact this
theorem waits_take {l : List Op3} {t : Int} (h : ∀ j, j < l.length → (opAt l j).1 ≠ t) : waitsB l t = false := by
  cases hh : waitsB l t with
  | false => rfl
  | true =>
    simp only [waitsB, List.any_eq_true, beq_iff_eq] at hh
    obtain ⟨y, hy, he⟩ := hh
    obtain ⟨i, hi, rfl⟩ := List.mem_iff_getElem.1 hy
    exact absurd (by simpa [opAt, List.getD, hi] using he) (h i hi)
theorem waits_hit {l : List Op3} {t : Int} {j : Nat} (hj : j < l.length) (h : (opAt l j).1 = t) : waitsB l t = true := by
  simp only [waitsB, List.any_eq_true, beq_iff_eq]
  exact ⟨_, opAt_mem hj, h⟩
end Go.Proofs.Ytnddihhekeecnad
