/-
  PROVED HERE: how a list of numbers lies in memory, as a slice value that came in or that the program made itself; and what is owned stays owned where nothing that was there turns.
  Conditions: none.
  (Of these, what the claim wants: the rest was left out.)
-/
import Derived.Test.YtaodbljpihcjnaaDoorProg
import Derived.WalkKit
import Derived.WalkSpells
import Derived.Handy
namespace Go.Proofs.YtaodbljpihcjnaaDoor
open Go.RowKit

/-- A slice value that holds a list of numbers. -/
def IsInts (w : World) (v : Value) (l : List Int) : Prop :=
  ∃ (ad : Option Addr) (b off cap : Nat), v = .slice ad l.length cap ∧ (0 < l.length → ad = some ⟨b, off, none⟩) ∧ (ad = none → l.length = 0 ∧ cap = 0) ∧ (b < w.heap.size ∨ l = []) ∧ ∀ i, i < l.length → w.cell? ⟨b, off + i, none⟩ = some (.int .i64 (l.getD i 0))
theorem IsInts.below {w w1 : World} {B : Nat} {v : Value} {l : List Int} (h : IsInts w v l) (hb : Below B w w1) (hB : w.heap.size ≤ B) : IsInts w1 v l := by
  obtain ⟨ad, b, off, cap, hv, ha, hn, hbB, hc⟩ := h
  have hs := hb.size
  refine ⟨ad, b, off, cap, hv, ha, hn, ?_, fun i hi => ?_⟩
  · rcases hbB with h | h
    · exact .inl (by omega)
    · exact .inr h
  · rcases hbB with h | h
    · rw [hb.cell (p := ⟨b, off + i, none⟩) (by simp; omega)]; exact hc i hi
    · subst h; simp at hi
end Go.Proofs.YtaodbljpihcjnaaDoor
