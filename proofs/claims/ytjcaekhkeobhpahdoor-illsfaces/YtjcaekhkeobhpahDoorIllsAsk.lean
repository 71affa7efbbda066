/-
  PROVED HERE: nothing yet of package ills: what its Of and First are asked to answer (IllsOfC, IllsFirstC), for the laws that call them.
  Conditions: none.
-/
import Derived.Test.YtjcaekhkeobhpahDoorIllsPlain
import Derived.Test.YtjcaekhkeobhpahDoorMgai
import Derived.Test.YtjcaekhkeobhpahDoorRefDone
namespace Go.Proofs.YtjcaekhkeobhpahDoor
open Go.RowKit

def illsU (l : List Op3) : Bool × Bool × Bool × Bool := if (chk l).2 ≠ 0 then (false, false, false, false) else (illsR l).1
def firstU (l : List Op3) : Int × Int := if (chk l).2 ≠ 0 then (0, (chk l).2) else if (illsR l).2 < 0 then (0, 5) else ((illsR l).2, 0)
def illsV (x : Bool × Bool × Bool × Bool) : Value := .agg #[.bool x.1, .bool x.2.1, .bool x.2.2.1, .bool x.2.2.2]
def IllsOfC : Prop := ∀ (l : List Op3) (ad : Option Addr) (cap : Nat) (w : World), IsOps w (.slice ad l.length cap) l → l.length ≤ cap → Calls Tryd.prog 8 #[.slice ad l.length cap] w fun e w' => e = .returned (.tuple #[illsV (illsU l), errV (chk l).2]) ∧ Below w.heap.size w w'
def IllsFirstC : Prop := ∀ (l : List Op3) (ad : Option Addr) (cap : Nat) (w : World), IsOps w (.slice ad l.length cap) l → l.length ≤ cap → Calls Tryd.prog 10 #[.slice ad l.length cap] w fun e w' => e = .returned (.tuple #[.int .i64 (firstU l).1, errV (firstU l).2]) ∧ Below w.heap.size w w'
/-- Four answers in a box. -/
def IlBox (w : World) (P : Nat) (x : Bool × Bool × Bool × Bool) : Prop := w.cell? ⟨P, 0, none⟩ = some (.bool x.1) ∧ w.cell? ⟨P, 1, none⟩ = some (.bool x.2.1) ∧ w.cell? ⟨P, 2, none⟩ = some (.bool x.2.2.1) ∧ w.cell? ⟨P, 3, none⟩ = some (.bool x.2.2.2)
theorem IlBox.below {w w1 : World} {P : Nat} {x : Bool × Bool × Bool × Bool} (h : IlBox w P x) (hb : Below w.heap.size w w1) : IlBox w1 P x :=
  have hl := World.block_lt_of_cell? w _ h.1
  ⟨(hb.cell (p := ⟨P, 0, none⟩) hl).trans h.1, (hb.cell (p := ⟨P, 1, none⟩) hl).trans h.2.1, (hb.cell (p := ⟨P, 2, none⟩) hl).trans h.2.2.1, (hb.cell (p := ⟨P, 3, none⟩) hl).trans h.2.2.2⟩
theorem ilBox_new (w : World) (a b c d : Bool) (T : TypeId) : IlBox (w.alloc (.cells #[.bool a, .bool b, .bool c, .bool d] T)) w.heap.size (a, b, c, d) := ⟨by simp, by simp, by simp, by simp⟩
end Go.Proofs.YtjcaekhkeobhpahDoor
