/-
  PROVED HERE: a square of bools in a block of memory of any type of that shape, and what becomes of it when one of them is set, when memory is made, and when old memory stays.
  Conditions: none.
  (Of these, what the claim wants: the rest was left out.)
-/
import Derived.Test.YtmgadiopjofegaiDoorGraphMat
namespace Go.Proofs.YtmgadiopjofegaiDoor
open Go.RowKit

def MatT (T : TypeId) (w : World) (b : Nat) (s : Step7) : Prop := w.heap[b]? = some (.cells (cells49 s) T (0, 0))
theorem MatT.lt {T : TypeId} {w : World} {b : Nat} {s : Step7} (h : MatT T w b s) : b < w.heap.size := by
  have h' : w.heap[b]? = some _ := h
  exact (Array.getElem?_eq_some_iff.1 h').1
theorem MatT.cell {T : TypeId} {w : World} {b : Nat} {s : Step7} (h : MatT T w b s) {i k : Nat} (hi : i < 7) (hk : k < 7) : w.cell? ⟨b, i * 7 + k, none⟩ = some (.bool (s i k)) := by
  rw [cell_of_row w b _ _ _ _ h, cells49_at s _ (by omega), flat_two i k hk]
theorem MatT.thaw {T : TypeId} {w : World} {b : Nat} {s : Step7} (h : MatT T w b s) (k : Nat) : w.frozen? ⟨b, k, none⟩ = false := by
  have h' : w.heap[b]? = some _ := h
  simp [World.frozen?, h']
theorem MatT.drew {T : TypeId} {w : World} {b : Nat} {s : Step7} (h : MatT T w b s) : MatT T w.drew b s := h
theorem MatT.below {T : TypeId} {w w1 : World} {b B : Nat} {s : Step7} (h : MatT T w b s) (hb : Below B w w1) (hB : b < B) : MatT T w1 b s := (hb.block b hB).trans h
theorem MatT.alloc {T : TypeId} {w : World} {b : Nat} {s : Step7} (h : MatT T w b s) (o : Obj) : MatT T (w.alloc o) b s := (Below.heap_alloc w o b h.lt).trans h
theorem MatT.far {T : TypeId} {w : World} {b : Nat} {s : Step7} (h : MatT T w b s) {p : Addr} (v : Value) (hp : b ≠ p.block) : MatT T (w.setCell p v) b s := (Below.heap_setCell w p v b hp).trans h
theorem MatT.set {T : TypeId} {w : World} {b t a : Nat} {s : Step7} (h : MatT T w b s) (ha : a < 7) : MatT T (w.setCell ⟨b, t * 7 + a, none⟩ (.bool true)) b (setM s t a) := by
  have h' : w.heap[b]? = some (.cells (cells49 s) T (0, 0)) := h
  unfold MatT World.setCell
  rw [Array.getElem?_modify]
  simp [h', cells49_set s t a ha]
theorem MatT.congr {T : TypeId} {w : World} {b : Nat} {s r : Step7} (h : MatT T w b s) (he : s = r) : MatT T w b r := he ▸ h
theorem matT_box (T : TypeId) (w : World) (s : Step7) : MatT T (w.alloc (.cells (cells49 s) T)) w.heap.size s := by
  unfold MatT World.alloc
  simp
theorem matT_fresh (T : TypeId) (w : World) (c : Array Value) (h : cells49 (fun _ _ => false) = c) : MatT T (w.alloc (.cells c T)) w.heap.size (fun _ _ => false) := h ▸ matT_box T w _
theorem MatT.drewN {T : TypeId} {w : World} {b n : Nat} {s : Step7} (h : MatT T w b s) : MatT T (w.drewN n) b s := h
end Go.Proofs.YtmgadiopjofegaiDoor
