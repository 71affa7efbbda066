/-
  PROVED HERE: seven names in a block of memory (of each item the Write that was last), what becomes of them when one is set, and as a value that is compared; what ops see and leave (a map and seven names) as a value and in memory.
  Conditions: none.
-/
import Derived.Test.YtjaeaanpbdmfgacDoorOddKey
import Derived.Test.YtjaeaanpbdmfgacDoorViewPlain
import Derived.Laws.Rows
import Derived.Laws.CopyOwn
import Derived.Deep.MidRow
namespace Go.Proofs.YtjaeaanpbdmfgacDoor
open Go.RowKit Go.Maps

/-- A number of a name. -/
def partN (n : Nm) (j : Nat) : Value := match j with | 0 => .int .i64 n.1.1 | 1 => .int .i64 n.1.2.1 | 2 => .int .i64 n.1.2.2 | _ => .int .i64 n.2
def cells28 (f : Nat → Nm) : Array Value := ((List.range 28).map fun k => partN (f (k / 4)) (k % 4)).toArray
theorem cells28_size (f : Nat → Nm) : (cells28 f).size = 28 := by simp [cells28]
theorem cells28_at (f : Nat → Nm) (k : Nat) (h : k < 28) : (cells28 f)[k]? = some (partN (f (k / 4)) (k % 4)) := by simp [cells28, h]
theorem partN_one (n : Nm) (j : Nat) : (partN n j).oneCell' = true := by unfold partN; split <;> rfl
theorem cells28_one (f : Nat → Nm) : (cells28 f).all (·.oneCell') = true := by
  rw [Array.all_eq_true_iff_forall_mem]
  intro v hv
  simp only [cells28, List.mem_toArray, List.mem_map] at hv
  obtain ⟨k, _, rfl⟩ := hv
  exact partN_one _ _
theorem cells28_congr {f g : Nat → Nm} (h : ∀ x, x < 7 → f x = g x) : cells28 f = cells28 g := by
  unfold cells28
  congr 1
  refine List.map_congr_left fun k hk => ?_
  rw [h (k / 4) (by have := List.mem_range.1 hk; omega)]
theorem partN_inj {a b : Nm} (h0 : partN a 0 = partN b 0) (h1 : partN a 1 = partN b 1) (h2 : partN a 2 = partN b 2) (h3 : partN a 3 = partN b 3) : a = b := by
  obtain ⟨⟨a1, a2, a3⟩, a4⟩ := a
  obtain ⟨⟨b1, b2, b3⟩, b4⟩ := b
  simp [partN] at h0 h1 h2 h3
  obtain rfl := h0
  obtain rfl := h1
  obtain rfl := h2
  have : a4 = b4 := by omega
  rw [this]
theorem cells28_inj {f g : Nat → Nm} (h : cells28 f = cells28 g) {x : Nat} (hx : x < 7) : f x = g x := by
  have e : ∀ j, j < 4 → partN (f x) j = partN (g x) j := fun j hj => by
    have h1 := cells28_at f (x * 4 + j) (by omega)
    rw [h, cells28_at g (x * 4 + j) (by omega), show (x * 4 + j) / 4 = x by omega, show (x * 4 + j) % 4 = j by omega] at h1
    exact (Option.some.inj h1).symm
  exact partN_inj (e 0 (by omega)) (e 1 (by omega)) (e 2 (by omega)) (e 3 (by omega))
def setW (f : Nat → Nm) (x : Nat) (n : Nm) : Nat → Nm := fun i => if i = x then n else f i
/-- Seven names in a block. -/
def LastAt (w : World) (b : Nat) (f : Nat → Nm) : Prop := w.heap[b]? = some (.cells (cells28 f) 55 (0, 0))
theorem LastAt.lt {w : World} {b : Nat} {f : Nat → Nm} (h : LastAt w b f) : b < w.heap.size := by
  have h' : w.heap[b]? = some _ := h
  exact (Array.getElem?_eq_some_iff.1 h').1
theorem LastAt.cell {w : World} {b : Nat} {f : Nat → Nm} (h : LastAt w b f) {x j : Nat} (hx : x < 7) (hj : j < 4) : w.cell? ⟨b, x * 4 + j, none⟩ = some (partN (f x) j) := by
  rw [cell_of_row w b _ _ _ _ h, cells28_at f _ (by omega), show (x * 4 + j) / 4 = x by omega, show (x * 4 + j) % 4 = j by omega]
theorem LastAt.cells {w : World} {b : Nat} {f : Nat → Nm} (h : LastAt w b f) {x : Nat} (hx : x < 7) {t a i : Int} {m : Nat} (he : f x = ((t, a, i), m)) : w.cell? ⟨b, x * 4, none⟩ = some (.int .i64 t) ∧ w.cell? ⟨b, x * 4 + 1, none⟩ = some (.int .i64 a) ∧ w.cell? ⟨b, x * 4 + 2, none⟩ = some (.int .i64 i) ∧ w.cell? ⟨b, x * 4 + 3, none⟩ = some (.int .i64 m) := by
  have h0 := h.cell hx (j := 0) (by omega)
  have h1 := h.cell hx (j := 1) (by omega)
  have h2 := h.cell hx (j := 2) (by omega)
  have h3 := h.cell hx (j := 3) (by omega)
  rw [he] at h0 h1 h2 h3
  exact ⟨h0, h1, h2, h3⟩
theorem LastAt.thaw {w : World} {b : Nat} {f : Nat → Nm} (h : LastAt w b f) (k : Nat) : w.frozen? ⟨b, k, none⟩ = false := by
  have h' : w.heap[b]? = some _ := h
  simp [World.frozen?, h']
theorem LastAt.same {w w' : World} {b : Nat} {f : Nat → Nm} (h : LastAt w b f) (hb : w'.heap[b]? = w.heap[b]?) : LastAt w' b f := hb.trans h
theorem LastAt.below {w w1 : World} {b B : Nat} {f : Nat → Nm} (h : LastAt w b f) (hb : Below B w w1) (hB : b < B) : LastAt w1 b f := (hb.block b hB).trans h
theorem LastAt.alloc {w : World} {b : Nat} {f : Nat → Nm} (h : LastAt w b f) (o : Obj) : LastAt (w.alloc o) b f := (Below.heap_alloc w o b h.lt).trans h
theorem LastAt.far {w : World} {b : Nat} {f : Nat → Nm} (h : LastAt w b f) {p : Addr} (v : Value) (hp : b ≠ p.block) : LastAt (w.setCell p v) b f := (Below.heap_setCell w p v b hp).trans h
theorem cells28_set (f : Nat → Nm) (x : Nat) (n : Nm) : (((cells28 f |>.setIfInBounds (x * 4) (partN n 0)).setIfInBounds (x * 4 + 1) (partN n 1)).setIfInBounds (x * 4 + 2) (partN n 2)).setIfInBounds (x * 4 + 3) (partN n 3) = cells28 (setW f x n) := by
  refine Array.ext_getElem? fun j => ?_
  by_cases hj : j < 28
  · rw [cells28_at _ j hj]
    simp only [Array.getElem?_setIfInBounds, Array.size_setIfInBounds, cells28_size]
    rw [cells28_at _ j hj]
    unfold setW
    by_cases e : j / 4 = x
    · rw [if_pos e]
      rcases (show j = x * 4 ∨ j = x * 4 + 1 ∨ j = x * 4 + 2 ∨ j = x * 4 + 3 by omega) with h | h | h | h
      · rw [if_neg (by omega), if_neg (by omega), if_neg (by omega), if_pos h.symm, if_pos (by omega), show j % 4 = 0 by omega]
      · rw [if_neg (by omega), if_neg (by omega), if_pos h.symm, if_pos (by omega), show j % 4 = 1 by omega]
      · rw [if_neg (by omega), if_pos h.symm, if_pos (by omega), show j % 4 = 2 by omega]
      · rw [if_pos h.symm, if_pos (by omega), show j % 4 = 3 by omega]
    · rw [if_neg e, if_neg (by omega), if_neg (by omega), if_neg (by omega), if_neg (by omega)]
  · rw [Array.getElem?_eq_none (by simp [cells28_size]; omega), Array.getElem?_eq_none (by simp [cells28_size]; omega)]
theorem LastAt.set {w : World} {b : Nat} {f : Nat → Nm} (h : LastAt w b f) (x : Nat) (n : Nm) : LastAt ((((w.setCell ⟨b, x * 4, none⟩ (partN n 0)).setCell ⟨b, x * 4 + 1, none⟩ (partN n 1)).setCell ⟨b, x * 4 + 2, none⟩ (partN n 2)).setCell ⟨b, x * 4 + 3, none⟩ (partN n 3)) b (setW f x n) := by
  have h' : w.heap[b]? = some (.cells (cells28 f) 55 (0, 0)) := h
  unfold LastAt World.setCell
  simp [Array.getElem?_modify, h', cells28_set f x n]
theorem last_box (w : World) (f : Nat → Nm) : LastAt (w.alloc (.cells (cells28 f) 55)) w.heap.size f := by
  unfold LastAt World.alloc
  simp
theorem last_fresh (w : World) (c : Array Value) (h : cells28 (fun _ => zN) = c) : LastAt (w.alloc (.cells c 55)) w.heap.size (fun _ => zN) := h ▸ last_box w _
theorem last_info : (Tryd.prog.info? 55).map (·.size) = some 28 := by kernel_rfl
theorem last_info' (f : Nat → Nm) : (Tryd.prog.info? 55).map (·.size) = some (cells28 f).size := by rw [cells28_size]; exact last_info
/-- What ops see and what they leave, as a value. -/
def cells29 (M : Nat) (f : Nat → Nm) : Array Value := (Value.map (some M) :: (cells28 f).toList).toArray
theorem cells29_size (M : Nat) (f : Nat → Nm) : (cells29 M f).size = 29 := by simp [cells29, cells28_size]
theorem cells29_one (M : Nat) (f : Nat → Nm) : (cells29 M f).all (·.oneCell') = true := by
  rw [Array.all_eq_true_iff_forall_mem]
  intro v hv
  simp only [cells29, List.mem_toArray, List.mem_cons, Array.mem_toList_iff] at hv
  rcases hv with rfl | hv
  · rfl
  · exact (Array.all_eq_true_iff_forall_mem.1 (cells28_one f)) v hv
theorem sight_info : (Tryd.prog.info? 57).map (·.size) = some 29 := by kernel_rfl
theorem sight_info' (M : Nat) (f : Nat → Nm) : (Tryd.prog.info? 57).map (·.size) = some (cells29 M f).size := by rw [cells29_size]; exact sight_info
def SightAt (w : World) (b M : Nat) (f : Nat → Nm) : Prop := w.heap[b]? = some (.cells (cells29 M f) 57 (0, 0))
theorem SightAt.lt {w : World} {b M : Nat} {f : Nat → Nm} (h : SightAt w b M f) : b < w.heap.size := by
  have h' : w.heap[b]? = some _ := h
  exact (Array.getElem?_eq_some_iff.1 h').1
theorem SightAt.map {w : World} {b M : Nat} {f : Nat → Nm} (h : SightAt w b M f) : w.cell? ⟨b, 0, none⟩ = some (.map (some M)) := by
  rw [cell_of_row w b _ _ _ _ h]; rfl
theorem SightAt.cell {w : World} {b M : Nat} {f : Nat → Nm} (h : SightAt w b M f) {k : Nat} (hk : k < 28) : w.cell? ⟨b, 1 + k, none⟩ = some (partN (f (k / 4)) (k % 4)) := by
  rw [cell_of_row w b _ _ _ _ h, Nat.add_comm 1 k]
  have := cells28_at f k hk
  simpa [cells29] using this
theorem SightAt.range {w : World} {b M : Nat} {f : Nat → Nm} (h : SightAt w b M f) : w.rangeAt b 1 (cells28 f).toList := fun j v hv => by
  have hj : j < 28 := by
    have := (List.getElem?_eq_some_iff.1 hv).1
    simpa [cells28_size] using this
  rw [h.cell hj]
  have h1 := cells28_at f j hj
  rw [← Array.getElem?_toList, hv] at h1
  exact h1.symm
theorem SightAt.below {w w1 : World} {b B M : Nat} {f : Nat → Nm} (h : SightAt w b M f) (hb : Below B w w1) (hB : b < B) : SightAt w1 b M f := (hb.block b hB).trans h
theorem SightAt.same {w w' : World} {b M : Nat} {f : Nat → Nm} (h : SightAt w b M f) (hb : w'.heap[b]? = w.heap[b]?) : SightAt w' b M f := hb.trans h
theorem sight_box (w : World) (M : Nat) (f : Nat → Nm) : SightAt (w.alloc (.cells (cells29 M f) 57)) w.heap.size M f := by
  unfold SightAt World.alloc
  simp
theorem sight_built (M : Nat) (f : Nat → Nm) : Tryd.prog.built 57 [(0, .map (some M)), (1, .agg (cells28 f))] = some (cells29 M f) := by kernel_rfl
end Go.Proofs.YtjaeaanpbdmfgacDoor
