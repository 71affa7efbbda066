/-
  PROVED HERE: faces.endsOf tells how each deal of a right list ends, and where, as a row of seven; its methods tell who has committed, aborted or ended by a place. Old memory stays as it was.
  Conditions: the deal that is asked for is one of seven.
-/
import Derived.Test.YtjcaekhkeobhpahDoorEndsPlain
import Derived.Test.YtjcaekhkeobhpahDoorMgai
import Derived.Laws.Rows
import Derived.Deep.Cut
namespace Go.Proofs.YtjcaekhkeobhpahDoor
open Go.RowKit

/-- How a deal ends, and where, as numbers. -/
def partE (p : Int × Int) (j : Nat) : Value := match j with | 0 => .int .i64 p.1 | _ => .int .i64 p.2
def cells14 (f : Nat → Int × Int) : Array Value := ((List.range 14).map fun k => partE (f (k / 2)) (k % 2)).toArray
theorem cells14_size (f : Nat → Int × Int) : (cells14 f).size = 14 := by simp [cells14]
theorem cells14_at (f : Nat → Int × Int) (k : Nat) (h : k < 14) : (cells14 f)[k]? = some (partE (f (k / 2)) (k % 2)) := by simp [cells14, h]
theorem partE_one (n : Int × Int) (j : Nat) : (partE n j).oneCell' = true := by unfold partE; split <;> rfl
theorem cells14_one (f : Nat → Int × Int) : (cells14 f).all (·.oneCell') = true := by
  rw [Array.all_eq_true_iff_forall_mem]
  intro v hv
  simp only [cells14, List.mem_toArray, List.mem_map] at hv
  obtain ⟨k, _, rfl⟩ := hv
  exact partE_one _ _
/-- The row in a block. -/
def EndsAt (w : World) (b : Nat) (f : Nat → Int × Int) : Prop := w.heap[b]? = some (.cells (cells14 f) 64 (0, 0))
theorem EndsAt.lt {w : World} {b : Nat} {f : Nat → Int × Int} (h : EndsAt w b f) : b < w.heap.size := by
  have h' : w.heap[b]? = some _ := h
  exact (Array.getElem?_eq_some_iff.1 h').1
theorem EndsAt.cells {w : World} {b : Nat} {f : Nat → Int × Int} (h : EndsAt w b f) {x : Nat} (hx : x < 7) {a p : Int} (he : f x = (a, p)) : w.cell? ⟨b, x * 2, none⟩ = some (.int .i64 a) ∧ w.cell? ⟨b, x * 2 + 1, none⟩ = some (.int .i64 p) := by
  constructor
  · rw [cell_of_row w b _ _ _ _ h, cells14_at f _ (by omega), show (x * 2) / 2 = x by omega, show (x * 2) % 2 = 0 by omega, he]; rfl
  · rw [cell_of_row w b _ _ _ _ h, cells14_at f _ (by omega), show (x * 2 + 1) / 2 = x by omega, show (x * 2 + 1) % 2 = 1 by omega, he]; rfl
theorem EndsAt.thaw {w : World} {b : Nat} {f : Nat → Int × Int} (h : EndsAt w b f) (k : Nat) : w.frozen? ⟨b, k, none⟩ = false := by
  have h' : w.heap[b]? = some _ := h
  simp [World.frozen?, h']
theorem EndsAt.same {w w' : World} {b : Nat} {f : Nat → Int × Int} (h : EndsAt w b f) (hb : w'.heap[b]? = w.heap[b]?) : EndsAt w' b f := hb.trans h
theorem EndsAt.below {w w1 : World} {b B : Nat} {f : Nat → Int × Int} (h : EndsAt w b f) (hb : Below B w w1) (hB : b < B) : EndsAt w1 b f := (hb.block b hB).trans h
theorem EndsAt.alloc {w : World} {b : Nat} {f : Nat → Int × Int} (h : EndsAt w b f) (o : Obj) : EndsAt (w.alloc o) b f := (Below.heap_alloc w o b h.lt).trans h
theorem EndsAt.far {w : World} {b : Nat} {f : Nat → Int × Int} (h : EndsAt w b f) {p : Addr} (v : Value) (hp : b ≠ p.block) : EndsAt (w.setCell p v) b f := (Below.heap_setCell w p v b hp).trans h
theorem cells14_set (f : Nat → Int × Int) (x : Nat) (n : Int × Int) : ((cells14 f |>.setIfInBounds (x * 2) (partE n 0)).setIfInBounds (x * 2 + 1) (partE n 1)) = cells14 (setE f x n) := by
  refine Array.ext_getElem? fun j => ?_
  by_cases hj : j < 14
  · rw [cells14_at _ j hj]
    simp only [Array.getElem?_setIfInBounds, Array.size_setIfInBounds, cells14_size]
    rw [cells14_at _ j hj]
    unfold setE
    by_cases e : j / 2 = x
    · rw [if_pos e]
      rcases (show j = x * 2 ∨ j = x * 2 + 1 by omega) with h | h
      · rw [if_neg (by omega), if_pos h.symm, if_pos (by omega), show j % 2 = 0 by omega]
      · rw [if_pos h.symm, if_pos (by omega), show j % 2 = 1 by omega]
    · rw [if_neg e, if_neg (by omega), if_neg (by omega)]
  · rw [Array.getElem?_eq_none (by simp [cells14_size]; omega), Array.getElem?_eq_none (by simp [cells14_size]; omega)]
theorem EndsAt.set {w : World} {b : Nat} {f : Nat → Int × Int} (h : EndsAt w b f) (x : Nat) (a p : Int) : EndsAt ((w.setCell ⟨b, x * 2, none⟩ (.int .i64 a)).setCell ⟨b, x * 2 + 1, none⟩ (.int .i64 p)) b (setE f x (a, p)) := by
  have h' : w.heap[b]? = some (.cells (cells14 f) 64 (0, 0)) := h
  have h2 := cells14_set f x (a, p)
  simp only [partE] at h2
  unfold EndsAt World.setCell
  simp [Array.getElem?_modify, h', h2]
theorem ends_box (w : World) (f : Nat → Int × Int) : EndsAt (w.alloc (.cells (cells14 f) 64)) w.heap.size f := by
  unfold EndsAt World.alloc
  simp
theorem ends_fresh (w : World) (c : Array Value) (h : cells14 (fun _ => (0, 0)) = c) : EndsAt (w.alloc (.cells c 64)) w.heap.size (fun _ => (0, 0)) := h ▸ ends_box w _
theorem ends_info : (Tryd.prog.info? 64).map (·.size) = some 14 := by kernel_rfl
theorem ends_info' (f : Nat → Int × Int) : (Tryd.prog.info? 64).map (·.size) = some (cells14 f).size := by rw [cells14_size]; exact ends_info
set_option maxHeartbeats 2000000 in
theorem committed_any (f : Nat → Int × Int) (t i : Int) (w : World) (h0 : 0 ≤ t) (h7 : t < 7) :
    Calls Tryd.prog 29 #[.agg (cells14 f), .int .i64 t, .int .i64 i] w fun e w' => e = .returned (.bool (byE f t i 3)) ∧ Below w.heap.size w w' := by
  obtain ⟨⟨a, p⟩, hf⟩ : ∃ n, f t.toNat = n := ⟨_, rfl⟩
  have HE : Hid (byE f t i 3 = (a == 3 && decide (p < i))) := by show byE f t i 3 = _; unfold byE; rw [hf]
  have HF : Hid (f t.toNat = (a, p)) := hf
  clear hf
  go_enter Tryd.func29, Tryd.ntmps29
  go_upto_region 1 with (fail)
  obtain ⟨W, hW⟩ : ∃ W, W = w.alloc (.cells (cells14 f) 64) := ⟨_, rfl⟩
  rw [← hW]
  have hE : EndsAt W w.heap.size f := by rw [hW]; exact ends_box w f
  have HB : Hid (Below w.heap.size w W) := by show Below _ _ _; rw [hW]; exact (Below.refl _ w).alloc (Nat.le_refl _) _
  obtain ⟨d0, d1⟩ := hE.cells (x := t.toNat) (by omega) HF.out
  clear hE hW
  by_cases ha : a = 3
  · subst ha
    by_cases hp : p < i
    · go_wp2_with fail
      go_ret
      exact ⟨by rw [HE.out]; simp [hp], HB.out⟩
    · go_wp2_with fail
      go_ret
      exact ⟨by rw [HE.out]; simp [hp], HB.out⟩
  · have ha' : (a == 3) = false := by simpa using ha
    go_wp2_with fail
    go_ret
    exact ⟨by rw [HE.out, ha']; rfl, HB.out⟩
set_option maxHeartbeats 2000000 in
theorem aborted_any (f : Nat → Int × Int) (t i : Int) (w : World) (h0 : 0 ≤ t) (h7 : t < 7) :
    Calls Tryd.prog 48 #[.agg (cells14 f), .int .i64 t, .int .i64 i] w fun e w' => e = .returned (.bool (byE f t i 4)) ∧ Below w.heap.size w w' := by
  obtain ⟨⟨a, p⟩, hf⟩ : ∃ n, f t.toNat = n := ⟨_, rfl⟩
  have HE : Hid (byE f t i 4 = (a == 4 && decide (p < i))) := by show byE f t i 4 = _; unfold byE; rw [hf]
  have HF : Hid (f t.toNat = (a, p)) := hf
  clear hf
  go_enter Tryd.func48, Tryd.ntmps48
  go_upto_region 1 with (fail)
  obtain ⟨W, hW⟩ : ∃ W, W = w.alloc (.cells (cells14 f) 64) := ⟨_, rfl⟩
  rw [← hW]
  have hE : EndsAt W w.heap.size f := by rw [hW]; exact ends_box w f
  have HB : Hid (Below w.heap.size w W) := by show Below _ _ _; rw [hW]; exact (Below.refl _ w).alloc (Nat.le_refl _) _
  obtain ⟨d0, d1⟩ := hE.cells (x := t.toNat) (by omega) HF.out
  clear hE hW
  by_cases ha : a = 4
  · subst ha
    by_cases hp : p < i
    · go_wp2_with fail
      go_ret
      exact ⟨by rw [HE.out]; simp [hp], HB.out⟩
    · go_wp2_with fail
      go_ret
      exact ⟨by rw [HE.out]; simp [hp], HB.out⟩
  · have ha' : (a == 4) = false := by simpa using ha
    go_wp2_with fail
    go_ret
    exact ⟨by rw [HE.out, ha']; rfl, HB.out⟩
end Go.Proofs.YtjcaekhkeobhpahDoor
