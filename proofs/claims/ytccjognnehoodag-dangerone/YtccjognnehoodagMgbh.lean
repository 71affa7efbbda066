/-
  PROVED HERE: how an outcome lies in memory: in a box, and its lists.
  Conditions: none.
  PROVED HERE: lanelaw2.SnapTells answers true, of any ops, over whatever keeps RunsC and TogC of chapter 12, RefC and RefOutC.
  Conditions: RunsC, TogC, RefC, RefOutC; the variable errors.errorType holds the handle of the type error.
-/
import Derived.Test.YtccjognnehoodagMgac
import Derived.Test.YtccjognnehoodagMgad
import Derived.Test.YtccjognnehoodagMgaw
import Derived.Test.YtccjognnehoodagMgba
import Derived.Test.YtccjognnehoodagMgax
import Derived.Test.YtccjognnehoodagMgbc
import Derived.Deep.RegionHeld3
import Derived.Deep.CutRange
namespace Go.Proofs.Ytccjognnehoodag
open Go.RowKit

/-- An outcome in a box. -/
def ObAt (w : World) (P : Nat) (a1 a2 a3 : Value) : Prop := w.cell? ⟨P, 0, none⟩ = some a1 ∧ w.cell? ⟨P, 1, none⟩ = some a2 ∧ w.cell? ⟨P, 2, none⟩ = some a3
theorem ObAt.below {w w1 : World} {P : Nat} {a1 a2 a3 : Value} (h : ObAt w P a1 a2 a3) (hb : Below w.heap.size w w1) : ObAt w1 P a1 a2 a3 :=
  have hl := World.block_lt_of_cell? w _ h.1
  ⟨(hb.cell (p := ⟨P, 0, none⟩) hl).trans h.1, (hb.cell (p := ⟨P, 1, none⟩) hl).trans h.2.1, (hb.cell (p := ⟨P, 2, none⟩) hl).trans h.2.2⟩
theorem obAt_new (w : World) (a1 a2 a3 : Value) (T : TypeId) : ObAt (w.alloc (.cells #[a1, a2, a3] T)) w.heap.size a1 a2 a3 := ⟨by simp, by simp, by simp⟩
/-- An outcome: its lists. -/
def OuIs (w : World) (a1 a2 a3 : Value) (x : List Int × List Op3 × List Int) : Prop := IsInts w a1 x.1 ∧ IsOps w a2 x.2.1 ∧ IsInts w a3 x.2.2
theorem OuIs.below {w w1 : World} {a1 a2 a3 : Value} {x : List Int × List Op3 × List Int} (h : OuIs w a1 a2 a3 x) (hb : Below w.heap.size w w1) : OuIs w1 a1 a2 a3 x := ⟨h.1.below hb (Nat.le_refl _), h.2.1.below hb (Nat.le_refl _), h.2.2.below hb (Nat.le_refl _)⟩
theorem OuIs.slices {w : World} {a1 a2 a3 : Value} {x : List Int × List Op3 × List Int} (h : OuIs w a1 a2 a3 x) : (∃ ad n c, a1 = .slice ad n c) ∧ (∃ ad n c, a2 = .slice ad n c) ∧ ∃ ad n c, a3 = .slice ad n c := by
  obtain ⟨⟨d1, _, _, c1, e1, _⟩, ⟨d2, _, _, c2, e2, _⟩, ⟨d3, _, _, c3, e3, _⟩⟩ := h
  exact ⟨⟨d1, _, c1, e1⟩, ⟨d2, _, c2, e2⟩, ⟨d3, _, c3, e3⟩⟩
end Go.Proofs.Ytccjognnehoodag

namespace Go.Proofs.Ytccjognnehoodag
open Go.RowKit

/-- What Together is asked to keep. -/
def TogC (F : FuncId) : Prop := ∀ (l : List Op3) (v : Value) (w : World), IsOps w v l → Calls Try.prog F #[v] w fun e w' => ∃ v', e = .returned (.tuple #[v', errV (chk l).2]) ∧ IsEdges w' v' (if (chk l).2 ≠ 0 then [] else togL (runK 2 okS l l.length).of (runK 2 okS l l.length).done) ∧ Below w.heap.size w w'
end Go.Proofs.Ytccjognnehoodag
