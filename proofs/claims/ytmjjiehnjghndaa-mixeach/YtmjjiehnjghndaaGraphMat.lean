/-
  PROVED HERE: a square of bools (from which deal to which) in a block of memory, and what becomes of it when one of them is set, when memory is made, and when old memory stays.
  Conditions: none.
-/
import Derived.Test.YtmjjiehnjghndaaGraphNamed
import Derived.Laws.Rows
import Derived.Laws.CopyOwn
namespace Go.Proofs.Ytmjjiehnjghndaa
open Go.RowKit

/-- Two numbers as one. -/
def flatS (s : Step7) : Set7 := fun k => s (k / 7) (k % 7)
def cells49 (s : Step7) : Array Value := ((List.range 49).map fun k => Value.bool (flatS s k)).toArray
theorem cells49_size (s : Step7) : (cells49 s).size = 49 := by simp [cells49]
theorem cells49_at (s : Step7) (k : Nat) (h : k < 49) : (cells49 s)[k]? = some (.bool (flatS s k)) := by simp [cells49, h]
theorem cells49_one (s : Step7) : (cells49 s).all (·.oneCell') = true := by
  rw [Array.all_eq_true_iff_forall_mem]
  intro v hv
  simp only [cells49, List.mem_toArray, List.mem_map] at hv
  obtain ⟨k, _, rfl⟩ := hv
  rfl
theorem flat_two (i k : Nat) (hk : k < 7) (s : Step7) : flatS s (i * 7 + k) = s i k := by
  unfold flatS
  rw [show (i * 7 + k) / 7 = i by omega, show (i * 7 + k) % 7 = k by omega]
def setM (s : Step7) (t a : Nat) : Step7 := fun i k => if i = t ∧ k = a then true else s i k
theorem cells49_set (s : Step7) (t a : Nat) (ha : a < 7) : (cells49 s).setIfInBounds (t * 7 + a) (.bool true) = cells49 (setM s t a) := by
  refine Array.ext_getElem? fun j => ?_
  rw [Array.getElem?_setIfInBounds, cells49_size]
  by_cases hj : j < 49
  · rw [cells49_at _ j hj, cells49_at _ j hj]
    unfold flatS setM
    by_cases e : t * 7 + a = j
    · rw [if_pos e, if_pos (by omega), if_pos (by omega)]
    · rw [if_neg e, if_neg (by omega)]
  · have h1 : ∀ r, (cells49 r)[j]? = none := fun r => Array.getElem?_eq_none (by rw [cells49_size]; omega)
    rw [h1, h1]
    by_cases e : t * 7 + a = j
    · rw [if_pos e, if_neg (by omega)]
    · rw [if_neg e]
def MatAt (w : World) (b : Nat) (s : Step7) : Prop := w.heap[b]? = some (.cells (cells49 s) 66 (0, 0))
theorem MatAt.lt {w : World} {b : Nat} {s : Step7} (h : MatAt w b s) : b < w.heap.size := by
  have h' : w.heap[b]? = some _ := h
  exact (Array.getElem?_eq_some_iff.1 h').1
theorem MatAt.cell {w : World} {b : Nat} {s : Step7} (h : MatAt w b s) {i k : Nat} (hi : i < 7) (hk : k < 7) : w.cell? ⟨b, i * 7 + k, none⟩ = some (.bool (s i k)) := by
  rw [cell_of_row w b _ _ _ _ h, cells49_at s _ (by omega), flat_two i k hk]
theorem MatAt.thaw {w : World} {b : Nat} {s : Step7} (h : MatAt w b s) (k : Nat) : w.frozen? ⟨b, k, none⟩ = false := by
  have h' : w.heap[b]? = some _ := h
  simp [World.frozen?, h']
theorem MatAt.drew {w : World} {b : Nat} {s : Step7} (h : MatAt w b s) : MatAt w.drew b s := h
theorem MatAt.below {w w1 : World} {b B : Nat} {s : Step7} (h : MatAt w b s) (hb : Below B w w1) (hB : b < B) : MatAt w1 b s := (hb.block b hB).trans h
theorem MatAt.alloc {w : World} {b : Nat} {s : Step7} (h : MatAt w b s) (o : Obj) : MatAt (w.alloc o) b s := (Below.heap_alloc w o b h.lt).trans h
theorem MatAt.far {w : World} {b : Nat} {s : Step7} (h : MatAt w b s) {p : Addr} (v : Value) (hp : b ≠ p.block) : MatAt (w.setCell p v) b s := (Below.heap_setCell w p v b hp).trans h
theorem MatAt.set {w : World} {b t a : Nat} {s : Step7} (h : MatAt w b s) (ha : a < 7) : MatAt (w.setCell ⟨b, t * 7 + a, none⟩ (.bool true)) b (setM s t a) := by
  have h' : w.heap[b]? = some (.cells (cells49 s) 66 (0, 0)) := h
  unfold MatAt World.setCell
  rw [Array.getElem?_modify]
  simp [h', cells49_set s t a ha]
theorem MatAt.congr {w : World} {b : Nat} {s r : Step7} (h : MatAt w b s) (he : s = r) : MatAt w b r := he ▸ h
theorem mat_box (w : World) (s : Step7) : MatAt (w.alloc (.cells (cells49 s) 66)) w.heap.size s := by
  unfold MatAt World.alloc
  simp
theorem mat_fresh (w : World) (c : Array Value) (h : cells49 (fun _ _ => false) = c) : MatAt (w.alloc (.cells c 66)) w.heap.size (fun _ _ => false) := h ▸ mat_box w _
theorem mat_fresh2 (w : World) (o : Obj) (c : Array Value) (h : cells49 (fun _ _ => false) = c) : MatAt ((w.alloc o).alloc (.cells c 66)) (w.heap.size + 1) (fun _ _ => false) := by
  have := mat_fresh (w.alloc o) c h
  simpa using this
theorem mat_info : (Try.prog.info? 66).map (·.size) = some 49 := by kernel_rfl
theorem mat_info' (s : Step7) : (Try.prog.info? 66).map (·.size) = some (cells49 s).size := by rw [cells49_size]; exact mat_info
end Go.Proofs.Ytmjjiehnjghndaa
