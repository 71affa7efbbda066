/-
  PROVED HERE: how a list of edges lies in memory, as a slice value that came in or that the program made itself.
  Conditions: none.
  (Of these, what the claim wants: the rest was left out.)
-/
import Derived.Test.YtaodbljpihcjnaaDoorProg
import Derived.Test.YtaodbljpihcjnaaDoorOddPlain
import Derived.WalkKit
import Derived.WalkSpells
import Derived.Handy
namespace Go.Proofs.YtaodbljpihcjnaaDoor
open Go.RowKit

/-- The edges lie in memory from an address on, two numbers each. -/
def EdgesAt (w : World) (b off : Nat) (l : List Edge2) : Prop :=
  ∀ i, i < l.length → w.cell? ⟨b, off + i * 2, none⟩ = some (.int .i64 (l.getD i (0, 0)).1) ∧ w.cell? ⟨b, off + i * 2 + 1, none⟩ = some (.int .i64 (l.getD i (0, 0)).2)
theorem EdgesAt.below {w w1 : World} {b off B : Nat} {l : List Edge2} (h : EdgesAt w b off l) (hb : Below B w w1) (hB : b < B ∨ l = []) : EdgesAt w1 b off l := by
  intro i hi
  have hB' : b < B := by
    rcases hB with h | h
    · exact h
    · subst h; cases hi
  rw [hb.cell (p := ⟨b, off + i * 2, none⟩) hB', hb.cell (p := ⟨b, off + i * 2 + 1, none⟩) hB']
  exact h i hi

/-- A slice value that holds a list of edges. -/
def IsEdges (w : World) (v : Value) (l : List Edge2) : Prop :=
  ∃ (ad : Option Addr) (b off cap : Nat), v = .slice ad l.length cap ∧ (0 < l.length → ad = some ⟨b, off, none⟩) ∧ (ad = none → l.length = 0 ∧ cap = 0) ∧ (b < w.heap.size ∨ l = []) ∧ EdgesAt w b off l
theorem IsEdges.below {w w1 : World} {B : Nat} {v : Value} {l : List Edge2} (h : IsEdges w v l) (hb : Below B w w1) (hB : w.heap.size ≤ B) : IsEdges w1 v l := by
  obtain ⟨ad, b, off, cap, hv, ha, hn, hbB, hops⟩ := h
  have hs := hb.size
  refine ⟨ad, b, off, cap, hv, ha, hn, ?_, hops.below hb ?_⟩
  · rcases hbB with h | h
    · exact .inl (by omega)
    · exact .inr h
  · rcases hbB with h | h
    · exact .inl (by omega)
    · exact .inr h
end Go.Proofs.YtaodbljpihcjnaaDoor
