/-
  PROVED HERE: how a list of ops lies in memory, as a slice value that came in or that the program made itself; history.Check over such a value.
  Conditions: none.
  (Of these, what the claim wants: the rest was left out.)
-/
import Derived.Test.YtaodbljpihcjnaaDoorCheck
namespace Go.Proofs.YtaodbljpihcjnaaDoor
open Go.RowKit

theorem OpsAt.below {w w1 : World} {b off B : Nat} {l : List Op3} (h : OpsAt w b off l) (hb : Below B w w1) (hB : b < B ∨ l = []) : OpsAt w1 b off l := by
  intro i hi
  have hB' : b < B := by
    rcases hB with h | h
    · exact h
    · subst h; cases hi
  rw [hb.cell (p := ⟨b, off + i * 3, none⟩) hB', hb.cell (p := ⟨b, off + i * 3 + 1, none⟩) hB', hb.cell (p := ⟨b, off + i * 3 + 2, none⟩) hB']
  exact h i hi


/-- A slice value that holds a list of ops. -/
def IsOps (w : World) (v : Value) (l : List Op3) : Prop :=
  ∃ (ad : Option Addr) (b off cap : Nat), v = .slice ad l.length cap ∧ (0 < l.length → ad = some ⟨b, off, none⟩) ∧ (ad = none → l.length = 0 ∧ cap = 0) ∧ (b < w.heap.size ∨ l = []) ∧ OpsAt w b off l
theorem IsOps.below {w w1 : World} {B : Nat} {v : Value} {l : List Op3} (h : IsOps w v l) (hb : Below B w w1) (hB : w.heap.size ≤ B) : IsOps w1 v l := by
  obtain ⟨ad, b, off, cap, hv, ha, hn, hbB, hops⟩ := h
  have hs := hb.size
  refine ⟨ad, b, off, cap, hv, ha, hn, ?_, hops.below hb ?_⟩
  · rcases hbB with h | h
    · exact .inl (by omega)
    · exact .inr h
  · rcases hbB with h | h
    · exact .inl (by omega)
    · exact .inr h
end Go.Proofs.YtaodbljpihcjnaaDoor
