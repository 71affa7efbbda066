/-
  PROVED HERE: how a list of grips lies in memory, as a slice value. Nothing yet of package tree: what its Check, Legal and Edges are asked to answer.
  Conditions: none.
  (Of these, what the claim wants: the rest was left out.)
-/
import Derived.Test.YtmgadiopjofegaiDoorTreePlain2
import Derived.Test.YtmgadiopjofegaiDoorEdgeRow
import Derived.Test.YtmgadiopjofegaiDoorIntRow
import Derived.Test.YtmgadiopjofegaiDoorCheck
import Derived.WalkKit
import Derived.WalkSpells
import Derived.Handy
namespace Go.Proofs.YtmgadiopjofegaiDoor
open Go.RowKit

def GripsAt (w : World) (b off : Nat) (l : List Grip3) : Prop :=
  ∀ i, i < l.length → w.cell? ⟨b, off + i * 3, none⟩ = some (.int .i64 (gAt l i).1) ∧ w.cell? ⟨b, off + i * 3 + 1, none⟩ = some (.int .i64 (gAt l i).2.1) ∧ w.cell? ⟨b, off + i * 3 + 2, none⟩ = some (.bool (gAt l i).2.2)
def IsGrips (w : World) (v : Value) (l : List Grip3) : Prop :=
  ∃ (ad : Option Addr) (b off cap : Nat), v = .slice ad l.length cap ∧ (0 < l.length → ad = some ⟨b, off, none⟩) ∧ (ad = none → l.length = 0 ∧ cap = 0) ∧ (b < w.heap.size ∨ l = []) ∧ GripsAt w b off l
theorem IsGrips.below {w w1 : World} {B : Nat} {v : Value} {l : List Grip3} (h : IsGrips w v l) (hb : Below B w w1) (hB : w.heap.size ≤ B) : IsGrips w1 v l := by
  obtain ⟨ad, b, off, cap, hv, ha, hn, hbB, hops⟩ := h
  have hs := hb.size
  refine ⟨ad, b, off, cap, hv, ha, hn, ?_, fun i hi => ?_⟩
  · rcases hbB with h | h
    · exact .inl (by omega)
    · exact .inr h
  · have hlt : b < B := by
      rcases hbB with h | h
      · omega
      · subst h; cases hi
    obtain ⟨c0, c1, c2⟩ := hops i hi
    exact ⟨(hb.cell (p := ⟨b, off + i * 3, none⟩) hlt).trans c0, (hb.cell (p := ⟨b, off + i * 3 + 1, none⟩) hlt).trans c1, (hb.cell (p := ⟨b, off + i * 3 + 2, none⟩) hlt).trans c2⟩
def TLegalC : Prop := ∀ (up : List Int) (l : List Grip3) (vu vl : Value) (w : World), IsInts w vu up → IsGrips w vl l → Calls Tryd.prog 9 #[vu, vl] w fun e w' => e = .returned (.tuple #[.int .i64 (gripsR up l).1, errV (gripsR up l).2]) ∧ Below w.heap.size w w'
def TEdgesC : Prop := ∀ (up : List Int) (l : List Grip3) (vu vl : Value) (w : World), IsInts w vu up → IsGrips w vl l → Calls Tryd.prog 11 #[vu, vl] w fun e w' => ∃ v', e = .returned (.tuple #[v', errV (gripsR up l).2]) ∧ IsEdges w' v' (if (gripsR up l).2 ≠ 0 then [] else gripL l) ∧ Below w.heap.size w w'
end Go.Proofs.YtmgadiopjofegaiDoor
