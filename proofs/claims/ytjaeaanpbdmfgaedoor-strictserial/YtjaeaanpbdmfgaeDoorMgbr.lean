/-
  PROVED HERE: slices.Index and slices.Contains on a row of bools; graph.next gives the least deal that waits for nobody who is waiting, 0 if there is none. Old memory stays as it was.
  Conditions: none.
  PROVED HERE: graph.Order gives the order that the plain function of the text GraphPlain2 makes of right edges, ErrCycle where it goes around, and of any other edges Check's error. Old memory stays as it was.
  Conditions: none.
  PROVED HERE: of the blocks below a base only one has turned (Past); a closure laid into a block of its own.
  Conditions: none.
-/
import Derived.Test.YtjaeaanpbdmfgaeDoorGraphFunc
import Derived.Test.YtjaeaanpbdmfgaeDoorMgaf
import Derived.Deep.Onto
import Derived.Test.YtjaeaanpbdmfgaeDoorMgal
import Derived.Maps.AppendAt
import Derived.Test.YtjaeaanpbdmfgaeDoorGraphSteps
import Derived.Test.YtjaeaanpbdmfgaeDoorMgae
namespace Go.Proofs.YtjaeaanpbdmfgaeDoor
open Go.RowKit

/-- A number in a block of its own. -/
def NumAt (w : World) (p : Nat) (t : Int) : Prop := w.cell? ⟨p, 0, none⟩ = some (.int .i64 t) ∧ w.frozen? ⟨p, 0, none⟩ = false
theorem NumAt.lt {w : World} {p : Nat} {t : Int} (h : NumAt w p t) : p < w.heap.size := by
  have := World.block_lt_of_cell? w _ h.1
  simpa using this
theorem NumAt.below {w w1 : World} {p B : Nat} {t : Int} (h : NumAt w p t) (hb : Below B w w1) (hB : p < B) : NumAt w1 p t := by
  unfold NumAt
  rw [hb.cell (p := ⟨p, 0, none⟩) hB, hb.frozen (p := ⟨p, 0, none⟩) hB]; exact h
theorem num_new (w : World) (x : Int) (t : Nat) (h : x = t) : NumAt (w.alloc (.cells #[.int .i64 x] 3)) w.heap.size t := by
  subst h
  simp [NumAt]
/-- The number that a pointer leads to. -/
def boxN (v : Value) (w : World) : Nat := match v with
  | .pointer (some a) => (match w.cell? a with
    | some (.int _ i) => i.toNat
    | _ => 0)
  | _ => 0
theorem box_at {a : Addr} {w : World} {t : Nat} (h : w.cell? a = some (.int .i64 t)) : boxN (.pointer (some a)) w = t := by simp [boxN, h]
theorem box_less {a c : Addr} {w w1 : World} {t : Nat} (h : w.cell? a = some (.int .i64 t)) (h1 : w1.cell? c = some (.int .i64 ((t + 1 : Nat) : Int))) (ht : t < 7) : 7 - boxN (.pointer (some c)) w1 < 7 - boxN (.pointer (some a)) w := by
  rw [box_at h, box_at h1]; omega
theorem anyTo_snoc {s : Set7} {k : Nat} (h : (List.range k).any s = false) (h1 : s k = false) : (List.range (k + 1)).any s = false := by
  rw [List.range_succ, List.any_append, h]; simp [h1]
theorem anyTo_hit {s : Set7} {k n : Nat} (hk : k < n) (h : s k = true) : (List.range n).any s = true := List.any_eq_true.2 ⟨k, List.mem_range.2 hk, h⟩

end Go.Proofs.YtjaeaanpbdmfgaeDoor

namespace Go.Proofs.YtjaeaanpbdmfgaeDoor
open Go.RowKit

theorem gcheck_ok (l : List Edge2) (v : Value) (w : World) (hI : IsEdges w v l) (hc : gchk l = 0) :
    Calls Tryd.prog 90 #[v] w fun e w' => e = .returned .nilIface ∧ Below w.heap.size w w' :=
  (gcheck_any l v w hI).mono fun _ _ ⟨he, hb⟩ => ⟨by rw [he, hc]; rfl, hb⟩
theorem gcheck_bad (l : List Edge2) (v : Value) (w : World) (hI : IsEdges w v l) (hc : gchk l ≠ 0) :
    Calls Tryd.prog 90 #[v] w fun e w' => e = .returned (.iface 66 (.int .i64 (gchk l))) ∧ Below w.heap.size w w' :=
  (gcheck_any l v w hI).mono fun _ _ ⟨he, hb⟩ => ⟨by rw [he]; unfold errG; rw [if_neg hc], hb⟩
/-- The length of a slice value. -/
def sliceN : Value → Nat
  | .slice _ n _ => n
  | _ => 0
theorem own_len {w : World} {base e s n : Nat} {v : Value} {xs : List Value} (h : w.ownsRow base e s v n xs) : sliceN v = n := by
  obtain ⟨_, ⟨hv, hd⟩ | ⟨g, cap, cur, hv, _⟩⟩ := h
  · rw [hv]; show 0 = n; omega
  · rw [hv]; rfl

end Go.Proofs.YtjaeaanpbdmfgaeDoor

namespace Go.Proofs.YtjaeaanpbdmfgaeDoor
open Go.RowKit

/-- Of the blocks below a base only one has turned. -/
structure Past (a B : Nat) (w w' : World) : Prop where
  os : w'.os = w.os
  tape : w'.tape = w.tape
  output : w'.output = w.output
  size : w.heap.size ≤ w'.heap.size
  block : ∀ k, k < B → k ≠ a → w'.heap[k]? = w.heap[k]?
theorem Past.refl (a B : Nat) (w : World) : Past a B w w := ⟨rfl, rfl, rfl, Nat.le_refl _, fun _ _ _ => rfl⟩
theorem Past.trans {a B : Nat} {w w1 w2 : World} (h : Past a B w w1) (k : Past a B w1 w2) : Past a B w w2 :=
  ⟨k.os.trans h.os, k.tape.trans h.tape, k.output.trans h.output, Nat.le_trans h.size k.size, fun j h1 h2 => (k.block j h1 h2).trans (h.block j h1 h2)⟩
theorem Past.mono {a B C : Nat} {w w1 : World} (h : Past a B w w1) (hC : C ≤ B) : Past a C w w1 := ⟨h.os, h.tape, h.output, h.size, fun k h1 h2 => h.block k (by omega) h2⟩
theorem Past.set {a B : Nat} {w w1 : World} (h : Past a B w w1) (o : Nat) (v : Value) : Past a B w (w1.setCell ⟨a, o, none⟩ v) :=
  ⟨h.os, h.tape, h.output, by simpa using h.size, fun k h1 h2 => (Below.heap_setCell w1 ⟨a, o, none⟩ v k h2).trans (h.block k h1 h2)⟩
theorem Past.drew {a B : Nat} {w w1 : World} (h : Past a B w w1) : Past a B w w1.drew := ⟨h.os, h.tape, h.output, h.size, h.block⟩
theorem Past.below {a B : Nat} {w w1 : World} (h : Past a B w w1) {C : Nat} (hC : C ≤ B) (ha : C ≤ a) : Below C w w1 := ⟨h.os, h.tape, h.output, h.size, fun k hk => h.block k (by omega) (by omega)⟩
theorem Past.cell {a B : Nat} {w w1 : World} (h : Past a B w w1) {p : Addr} (hp : p.block < B) (ha : p.block ≠ a) : w1.cell? p = w.cell? p := World.cell?_of_block (h.block _ hp ha)
theorem MatAt.past {w w1 : World} {b a B : Nat} {s : Step7} (h : MatAt w b s) (hp : Past a B w w1) (hB : b < B) (ha : b ≠ a) : MatAt w1 b s := (hp.block b hB ha).trans h

theorem store_func {P : Program} (w : World) (f : Fn) (ts cs : Array Value) (old : Value) (T : TypeId) (n : Nat) (hn : n = w.heap.size) :
    (store ⟨n, 0, none⟩ (.func f ts cs)).run P (w.alloc (.cells #[old] T)) = .ok () (w.alloc (.cells #[.func f ts cs] T)) := by
  subst hn
  rw [run_store _ _ _ _ _ rfl]
  simp [World.setCell_alloc_new]

end Go.Proofs.YtjaeaanpbdmfgaeDoor
