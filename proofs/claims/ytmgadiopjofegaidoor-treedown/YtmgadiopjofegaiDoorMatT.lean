/-
  PROVED HERE: a square of bools in a block of memory of any type of that shape, and what becomes of it when one of them is set, when memory is made, and when old memory stays.
  Conditions: none.
  (Of these, what the claim wants: the rest was left out.)
-/
import Derived.Test.YtmgadiopjofegaiDoorGraphMat
namespace Go.Proofs.YtmgadiopjofegaiDoor
open Go.RowKit

def MatT (T : TypeId) (w : World) (b : Nat) (s : Step7) : Prop := w.heap[b]? = some (.cells (cells49 s) T (0, 0))
theorem MatT.lt {T : TypeId} {w : World} {b : Nat} {s : Step7} (h : MatT T w b s) : b < w.heap.size := by
  have h' : w.heap[b]? = some _ := h
  exact (Array.getElem?_eq_some_iff.1 h').1
theorem MatT.cell {T : TypeId} {w : World} {b : Nat} {s : Step7} (h : MatT T w b s) {i k : Nat} (hi : i < 7) (hk : k < 7) : w.cell? ⟨b, i * 7 + k, none⟩ = some (.bool (s i k)) := by
  rw [cell_of_row w b _ _ _ _ h, cells49_at s _ (by omega), flat_two i k hk]
theorem MatT.thaw {T : TypeId} {w : World} {b : Nat} {s : Step7} (h : MatT T w b s) (k : Nat) : w.frozen? ⟨b, k, none⟩ = false := by
  have h' : w.heap[b]? = some _ := h
  simp [World.frozen?, h']
theorem MatT.below {T : TypeId} {w w1 : World} {b B : Nat} {s : Step7} (h : MatT T w b s) (hb : Below B w w1) (hB : b < B) : MatT T w1 b s := (hb.block b hB).trans h
theorem MatT.alloc {T : TypeId} {w : World} {b : Nat} {s : Step7} (h : MatT T w b s) (o : Obj) : MatT T (w.alloc o) b s := (Below.heap_alloc w o b h.lt).trans h
theorem MatT.set {T : TypeId} {w : World} {b t a : Nat} {s : Step7} (h : MatT T w b s) (ha : a < 7) : MatT T (w.setCell ⟨b, t * 7 + a, none⟩ (.bool true)) b (setM s t a) := by
  have h' : w.heap[b]? = some (.cells (cells49 s) T (0, 0)) := h
  unfold MatT World.setCell
  rw [Array.getElem?_modify]
  simp [h', cells49_set s t a ha]
theorem MatT.congr {T : TypeId} {w : World} {b : Nat} {s r : Step7} (h : MatT T w b s) (he : s = r) : MatT T w b r := he ▸ h
theorem MatT.drewN {T : TypeId} {w : World} {b n : Nat} {s : Step7} (h : MatT T w b s) : MatT T (w.drewN n) b s := h
end Go.Proofs.YtmgadiopjofegaiDoor
