/-
  PROVED HERE: of the blocks below a base only one has turned (Past); a closure laid into a block of its own.
  Conditions: none.
-/
import Derived.Test.YtmjjiehnjghndaaGraphSteps
import Derived.Test.YtmjjiehnjghndaaGraphOrder
import Derived.Test.YtmjjiehnjghndaaMgad
namespace Go.Proofs.Ytmjjiehnjghndaa
open Go.RowKit

/-- Of the blocks below a base only one has turned. -/
structure Past (a B : Nat) (w w' : World) : Prop where
  os : w'.os = w.os
  tape : w'.tape = w.tape
  output : w'.output = w.output
  size : w.heap.size ≤ w'.heap.size
  block : ∀ k, k < B → k ≠ a → w'.heap[k]? = w.heap[k]?
theorem Past.refl (a B : Nat) (w : World) : Past a B w w := ⟨rfl, rfl, rfl, Nat.le_refl _, fun _ _ _ => rfl⟩
theorem Past.trans {a B : Nat} {w w1 w2 : World} (h : Past a B w w1) (k : Past a B w1 w2) : Past a B w w2 :=
  ⟨k.os.trans h.os, k.tape.trans h.tape, k.output.trans h.output, Nat.le_trans h.size k.size, fun j h1 h2 => (k.block j h1 h2).trans (h.block j h1 h2)⟩
theorem Past.mono {a B C : Nat} {w w1 : World} (h : Past a B w w1) (hC : C ≤ B) : Past a C w w1 := ⟨h.os, h.tape, h.output, h.size, fun k h1 h2 => h.block k (by omega) h2⟩
theorem Past.set {a B : Nat} {w w1 : World} (h : Past a B w w1) (o : Nat) (v : Value) : Past a B w (w1.setCell ⟨a, o, none⟩ v) :=
  ⟨h.os, h.tape, h.output, by simpa using h.size, fun k h1 h2 => (Below.heap_setCell w1 ⟨a, o, none⟩ v k h2).trans (h.block k h1 h2)⟩
theorem Past.drew {a B : Nat} {w w1 : World} (h : Past a B w w1) : Past a B w w1.drew := ⟨h.os, h.tape, h.output, h.size, h.block⟩
theorem Past.below {a B : Nat} {w w1 : World} (h : Past a B w w1) {C : Nat} (hC : C ≤ B) (ha : C ≤ a) : Below C w w1 := ⟨h.os, h.tape, h.output, h.size, fun k hk => h.block k (by omega) (by omega)⟩
theorem Past.cell {a B : Nat} {w w1 : World} (h : Past a B w w1) {p : Addr} (hp : p.block < B) (ha : p.block ≠ a) : w1.cell? p = w.cell? p := World.cell?_of_block (h.block _ hp ha)
theorem MatAt.past {w w1 : World} {b a B : Nat} {s : Step7} (h : MatAt w b s) (hp : Past a B w w1) (hB : b < B) (ha : b ≠ a) : MatAt w1 b s := (hp.block b hB ha).trans h

theorem store_func {P : Program} (w : World) (f : Fn) (ts cs : Array Value) (old : Value) (T : TypeId) (n : Nat) (hn : n = w.heap.size) :
    (store ⟨n, 0, none⟩ (.func f ts cs)).run P (w.alloc (.cells #[old] T)) = .ok () (w.alloc (.cells #[.func f ts cs] T)) := by
  subst hn
  rw [run_store _ _ _ _ _ rfl]
  simp [World.setCell_alloc_new]

end Go.Proofs.Ytmjjiehnjghndaa
