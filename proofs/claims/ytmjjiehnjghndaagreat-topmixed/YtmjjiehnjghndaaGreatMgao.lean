/-
  PROVED HERE: graph.named gives the deals that right edges name. Old memory stays as it was.
  Conditions: none.
  PROVED HERE: a square of bools (from which deal to which) in a block of memory, and what becomes of it when one of them is set, when memory is made, and when old memory stays.
  Conditions: none.
-/
import Derived.Test.YtmjjiehnjghndaaGreatMgan
import Derived.Laws.Rows
import Derived.Laws.CopyOwn
namespace Go.Proofs.YtmjjiehnjghndaaGreat
open Go.RowKit

theorem cast_beq (t j : Nat) : ((t : Int) == (j : Int)) = decide (j = t) := by
  rw [Bool.eq_iff_iff]
  simp
  omega
theorem set_named (s : Set7) (t a j : Nat) : setS (setS s t true) a true j = (s j || ((t : Int) == (j : Int) || (a : Int) == (j : Int))) := by
  rw [cast_beq, cast_beq]
  unfold setS
  by_cases h1 : j = a
  · simp [h1]
  · by_cases h2 : j = t <;> simp [h1, h2]

set_option maxHeartbeats 4000000 in
theorem named_any (l : List Edge2) (v : Value) (w : World) (hI : IsEdges w v l) (hd : ∀ e ∈ l, (1 ≤ e.1 ∧ e.1 ≤ 6) ∧ (1 ≤ e.2 ∧ e.2 ≤ 6)) (hl : l.length ≤ 60) :
    Calls Tryz.prog 45 #[v] w fun e w' => e = .returned (.agg #[.bool (namedS l 0), .bool (namedS l 1), .bool (namedS l 2), .bool (namedS l 3), .bool (namedS l 4), .bool (namedS l 5), .bool (namedS l 6)]) ∧ Below w.heap.size w w' := by
  obtain ⟨ad, b, off, cap, rfl, ha, -, hbB, hops⟩ := hI
  have HO : Hid (∀ W, Below w.heap.size w W → ∀ k, k < l.length → ad = some ⟨b, off, none⟩ ∧ W.cell? ⟨b, off + k * 2, none⟩ = some (.int .i64 (l.getD k (0, 0)).1) ∧ W.cell? ⟨b, off + k * 2 + 1, none⟩ = some (.int .i64 (l.getD k (0, 0)).2)) := fun W hW k hk => ⟨ha (by omega), (hops.below hW hbB) k hk⟩
  have HD : Hid (∀ e ∈ l, (1 ≤ e.1 ∧ e.1 ≤ 6) ∧ (1 ≤ e.2 ∧ e.2 ≤ 6)) := hd
  clear ha hbB hops hd
  go_enter Tryz.func45, Tryz.ntmps45
  go_wp2
  go_loopw [8] (fun v8 wr => ∃ k : Nat, k ≤ l.length ∧ v8 = .int .i64 k ∧ Below w.heap.size w wr ∧ BoolsAt wr w.heap.size 7 (fun _ => false) ∧ BoolsAt wr (w.heap.size + 1) 7 (namedS (l.take k))) (fun v8 _ => l.length - (intOf v8).toNat)
  case atStart =>
    refine ⟨0, Nat.zero_le _, rfl, ((Below.refl _ w).alloc (Nat.le_refl _) _).alloc (by simp) _, (bools7_new w (fun _ => false) _).alloc _, ?_⟩
    have := bools7_new (w.alloc (Obj.cells #[Value.bool false, Value.bool false, Value.bool false, Value.bool false, Value.bool false, Value.bool false, Value.bool false] 84)) (fun _ => false) 84
    rw [List.take_zero]
    exact (by simpa using this : BoolsAt _ (w.heap.size + 1) 7 (fun _ => false))
  case round =>
    obtain ⟨k, hk, rfl, hbel, hz, hs⟩ := hrel
    have hB1 := hs.lt (by omega)
    have HZ : Hid (BoolsAt wr w.heap.size 7 (fun _ => false)) := hz
    have HS : Hid (BoolsAt wr (w.heap.size + 1) 7 (namedS (l.take k))) := hs
    clear hz hs
    by_cases hlt : k < l.length
    · obtain ⟨rfl, c0, c1⟩ := HO.out wr hbel k hlt
      obtain ⟨⟨t, a⟩, ho⟩ : ∃ o : Edge2, l.getD k (0, 0) = o := ⟨_, rfl⟩
      rw [ho] at c0 c1
      have hmem : (t, a) ∈ l := by rw [← ho]; simp [List.getD, List.getElem?_eq_getElem hlt]
      have hta := HD.out _ hmem
      simp only at hta c0 c1
      obtain ⟨t, rfl⟩ : ∃ n : Nat, t = n := ⟨t.toNat, by omega⟩
      obtain ⟨a, rfl⟩ : ∃ n : Nat, a = n := ⟨a.toNat, by omega⟩
      have HT : Hid (l.take (k + 1) = l.take k ++ [((t : Int), (a : Int))]) := by
        show l.take (k + 1) = l.take k ++ [((t : Int), (a : Int))]
        rw [List.take_succ_eq_append_getElem hlt, ← ho]; simp [List.getD, List.getElem?_eq_getElem hlt]
      have ht1 : 1 ≤ t := by omega
      have ht6 : t ≤ 6 := by omega
      have ha1 : 1 ≤ a := by omega
      have ha6 : a ≤ 6 := by omega
      clear ho hmem hta
      obtain ⟨f0, z0⟩ := HS.out t (by omega)
      obtain ⟨f1, z1⟩ := HS.out a (by omega)
      have hsz := hbel.size
      have ht7 : (t : Int) < 7 := by omega
      have ha7 : (a : Int) < 7 := by omega
      have hB0 : w.heap.size < wr.heap.size := by omega
      by_cases hta : t = a
      · have HEQ : Hid (t = a) := hta
        subst hta
        go_wp2
        go_region
        all_goals
          go_wp2
          go_roundw
          case rel =>
            refine ⟨k + 1, by omega, by go_num, (((hbel.setCell (by simp) _).setCell (by simp) _).alloc (by simpa using hsz) _).drew, (((HZ.out.far _ (by simp)).far _ (by simp)).alloc _).drew, ((((HS.out.set true (by omega)).set true (by omega)).alloc _).drew).congr ?_⟩
            intro j _
            rw [HT.out, namedS_snoc, set_named]
          case measure => simp [intOf]; omega
      · have hat : ¬ a = t := fun e => hta e.symm
        go_wp2
        go_region
        all_goals
          go_wp2
          go_roundw
          case rel =>
            refine ⟨k + 1, by omega, by go_num, (((hbel.setCell (by simp) _).setCell (by simp) _).alloc (by simpa using hsz) _).drew, (((HZ.out.far _ (by simp)).far _ (by simp)).alloc _).drew, ((((HS.out.set true (by omega)).set true (by omega)).alloc _).drew).congr ?_⟩
            intro j _
            rw [HT.out, namedS_snoc, set_named]
          case measure => simp [intOf]; omega
    · have HE : Hid (namedS (l.take k) = namedS l) := by show namedS (l.take k) = namedS l; rw [List.take_of_length_le (by omega)]
      have f0 := (HS.out 0 (by omega)).1
      have f1 := (HS.out 1 (by omega)).1
      have f2 := (HS.out 2 (by omega)).1
      have f3 := (HS.out 3 (by omega)).1
      have f4 := (HS.out 4 (by omega)).1
      have f5 := (HS.out 5 (by omega)).1
      have f6 := (HS.out 6 (by omega)).1
      have hz : ∀ k, k < 7 → wr.cell? ⟨w.heap.size, k, none⟩ = some (.bool false) := fun k hk => (HZ.out k hk).1
      have hy : ∀ k, k < 7 → wr.frozen? ⟨w.heap.size, k, none⟩ = false := fun k hk => (HZ.out k hk).2
      rw [HE.out] at f0 f1 f2 f3 f4 f5 f6
      clear HZ HS
      go_wp2
      refine bodyPost_ret (v := .agg #[.bool (namedS l 0), .bool (namedS l 1), .bool (namedS l 2), .bool (namedS l 3), .bool (namedS l 4), .bool (namedS l 5), .bool (namedS l 6)]) (by simp [results, Tryz.results45, go_sem, hz]) rfl ⟨rfl, ?_⟩
      exact ((((((hbel.setCell (Nat.le_refl _) _).setCell (Nat.le_refl _) _).setCell (Nat.le_refl _) _).setCell (Nat.le_refl _) _).setCell (Nat.le_refl _) _).setCell (Nat.le_refl _) _).setCell (Nat.le_refl _) _
end Go.Proofs.YtmjjiehnjghndaaGreat

namespace Go.Proofs.YtmjjiehnjghndaaGreat
open Go.RowKit

/-- Two numbers as one. -/
def flatS (s : Step7) : Set7 := fun k => s (k / 7) (k % 7)
def cells49 (s : Step7) : Array Value := ((List.range 49).map fun k => Value.bool (flatS s k)).toArray
theorem cells49_size (s : Step7) : (cells49 s).size = 49 := by simp [cells49]
theorem cells49_at (s : Step7) (k : Nat) (h : k < 49) : (cells49 s)[k]? = some (.bool (flatS s k)) := by simp [cells49, h]
theorem cells49_one (s : Step7) : (cells49 s).all (·.oneCell') = true := by
  rw [Array.all_eq_true_iff_forall_mem]
  intro v hv
  simp only [cells49, List.mem_toArray, List.mem_map] at hv
  obtain ⟨k, _, rfl⟩ := hv
  rfl
theorem flat_two (i k : Nat) (hk : k < 7) (s : Step7) : flatS s (i * 7 + k) = s i k := by
  unfold flatS
  rw [show (i * 7 + k) / 7 = i by omega, show (i * 7 + k) % 7 = k by omega]
def setM (s : Step7) (t a : Nat) : Step7 := fun i k => if i = t ∧ k = a then true else s i k
theorem cells49_set (s : Step7) (t a : Nat) (ha : a < 7) : (cells49 s).setIfInBounds (t * 7 + a) (.bool true) = cells49 (setM s t a) := by
  refine Array.ext_getElem? fun j => ?_
  rw [Array.getElem?_setIfInBounds, cells49_size]
  by_cases hj : j < 49
  · rw [cells49_at _ j hj, cells49_at _ j hj]
    unfold flatS setM
    by_cases e : t * 7 + a = j
    · rw [if_pos e, if_pos (by omega), if_pos (by omega)]
    · rw [if_neg e, if_neg (by omega)]
  · have h1 : ∀ r, (cells49 r)[j]? = none := fun r => Array.getElem?_eq_none (by rw [cells49_size]; omega)
    rw [h1, h1]
    by_cases e : t * 7 + a = j
    · rw [if_pos e, if_neg (by omega)]
    · rw [if_neg e]
def MatAt (w : World) (b : Nat) (s : Step7) : Prop := w.heap[b]? = some (.cells (cells49 s) 149 (0, 0))
theorem MatAt.lt {w : World} {b : Nat} {s : Step7} (h : MatAt w b s) : b < w.heap.size := by
  have h' : w.heap[b]? = some _ := h
  exact (Array.getElem?_eq_some_iff.1 h').1
theorem MatAt.cell {w : World} {b : Nat} {s : Step7} (h : MatAt w b s) {i k : Nat} (hi : i < 7) (hk : k < 7) : w.cell? ⟨b, i * 7 + k, none⟩ = some (.bool (s i k)) := by
  rw [cell_of_row w b _ _ _ _ h, cells49_at s _ (by omega), flat_two i k hk]
theorem MatAt.thaw {w : World} {b : Nat} {s : Step7} (h : MatAt w b s) (k : Nat) : w.frozen? ⟨b, k, none⟩ = false := by
  have h' : w.heap[b]? = some _ := h
  simp [World.frozen?, h']
theorem MatAt.drew {w : World} {b : Nat} {s : Step7} (h : MatAt w b s) : MatAt w.drew b s := h
theorem MatAt.below {w w1 : World} {b B : Nat} {s : Step7} (h : MatAt w b s) (hb : Below B w w1) (hB : b < B) : MatAt w1 b s := (hb.block b hB).trans h
theorem MatAt.alloc {w : World} {b : Nat} {s : Step7} (h : MatAt w b s) (o : Obj) : MatAt (w.alloc o) b s := (Below.heap_alloc w o b h.lt).trans h
theorem MatAt.far {w : World} {b : Nat} {s : Step7} (h : MatAt w b s) {p : Addr} (v : Value) (hp : b ≠ p.block) : MatAt (w.setCell p v) b s := (Below.heap_setCell w p v b hp).trans h
theorem MatAt.set {w : World} {b t a : Nat} {s : Step7} (h : MatAt w b s) (ha : a < 7) : MatAt (w.setCell ⟨b, t * 7 + a, none⟩ (.bool true)) b (setM s t a) := by
  have h' : w.heap[b]? = some (.cells (cells49 s) 149 (0, 0)) := h
  unfold MatAt World.setCell
  rw [Array.getElem?_modify]
  simp [h', cells49_set s t a ha]
theorem MatAt.congr {w : World} {b : Nat} {s r : Step7} (h : MatAt w b s) (he : s = r) : MatAt w b r := he ▸ h
theorem mat_box (w : World) (s : Step7) : MatAt (w.alloc (.cells (cells49 s) 149)) w.heap.size s := by
  unfold MatAt World.alloc
  simp
theorem mat_fresh (w : World) (c : Array Value) (h : cells49 (fun _ _ => false) = c) : MatAt (w.alloc (.cells c 149)) w.heap.size (fun _ _ => false) := h ▸ mat_box w _
theorem mat_fresh2 (w : World) (o : Obj) (c : Array Value) (h : cells49 (fun _ _ => false) = c) : MatAt ((w.alloc o).alloc (.cells c 149)) (w.heap.size + 1) (fun _ _ => false) := by
  have := mat_fresh (w.alloc o) c h
  simpa using this
theorem mat_info : (Tryz.prog.info? 149).map (·.size) = some 49 := by kernel_rfl
theorem mat_info' (s : Step7) : (Tryz.prog.info? 149).map (·.size) = some (cells49 s).size := by rw [cells49_size]; exact mat_info
end Go.Proofs.YtmjjiehnjghndaaGreat
