/-
  PROVED HERE: a row of bools in a block of memory, and what becomes of it when one of them is set, when memory is made, and when old memory stays.
  Conditions: none.
  PROVED HERE: graph.named gives the deals that right edges name. Old memory stays as it was.
  Conditions: none.
-/
import Derived.Test.YtccjognnehoodafMgaj
import Derived.Test.YtccjognnehoodafMgah
namespace Go.Proofs.Ytccjognnehoodaf
open Go.RowKit

/-- A row of bools in a block. -/
def BoolsAt (w : World) (b n : Nat) (s : Set7) : Prop := ∀ k, k < n → w.cell? ⟨b, k, none⟩ = some (.bool (s k)) ∧ w.frozen? ⟨b, k, none⟩ = false
theorem BoolsAt.congr {w : World} {b n : Nat} {s r : Set7} (h : BoolsAt w b n s) (he : ∀ k, k < n → s k = r k) : BoolsAt w b n r := fun k hk => by rw [← he k hk]; exact h k hk
theorem BoolsAt.drew {w : World} {b n : Nat} {s : Set7} (h : BoolsAt w b n s) : BoolsAt w.drew b n s := h
theorem BoolsAt.drewN {w : World} {b n m : Nat} {s : Set7} (h : BoolsAt w b n s) : BoolsAt (w.drewN m) b n s := h
theorem BoolsAt.lt {w : World} {b n : Nat} {s : Set7} (h : BoolsAt w b n s) (hn : 0 < n) : b < w.heap.size := by
  have := World.block_lt_of_cell? w _ (h 0 hn).1
  simpa using this
theorem BoolsAt.below {w w1 : World} {b n B : Nat} {s : Set7} (h : BoolsAt w b n s) (hb : Below B w w1) (hB : b < B) : BoolsAt w1 b n s := fun k hk => by
  rw [hb.cell (p := ⟨b, k, none⟩) hB, hb.frozen (p := ⟨b, k, none⟩) hB]; exact h k hk
theorem BoolsAt.alloc {w : World} {b n : Nat} {s : Set7} (h : BoolsAt w b n s) (o : Obj) : BoolsAt (w.alloc o) b n s := fun k hk => by
  have hlt : b < w.heap.size := by have := World.block_lt_of_cell? w _ (h k hk).1; simpa using this
  rw [World.cell?_alloc_lt _ _ _ hlt, World.frozen?_alloc_old _ _ _ (Nat.ne_of_lt hlt)]; exact h k hk
theorem BoolsAt.set {w : World} {b n t : Nat} {s : Set7} (h : BoolsAt w b n s) (x : Bool) (ht : t < n) : BoolsAt (w.setCell ⟨b, t, none⟩ (.bool x)) b n (setS s t x) := fun k hk => by
  rw [World.frozen?_setCell]
  refine ⟨?_, (h k hk).2⟩
  unfold setS
  by_cases e : k = t
  · subst e; rw [if_pos rfl]; exact World.cell?_setCell_same _ _ _ (h k hk).1
  · rw [if_neg e, World.cell?_setCell_other _ _ _ _ (by simp <;> omega)]; exact (h k hk).1
theorem BoolsAt.far {w : World} {b n : Nat} {s : Set7} (h : BoolsAt w b n s) {p : Addr} (v : Value) (hp : p.block ≠ b) : BoolsAt (w.setCell p v) b n s := fun k hk => by
  rw [World.frozen?_setCell, World.cell?_setCell_other _ _ _ _ (by intro e; exact hp (congrArg Addr.block e))]; exact h k hk
theorem BoolsAt.grown {w w1 : World} {b n : Nat} {s : Set7} {row : Option Nat} (h : BoolsAt w b n s) (hg : w.grownBy w1 row) (hlt : b < w.heap.size) (hne : row ≠ some b) : BoolsAt w1 b n s := fun k hk => by
  have hb := hg.block b hlt (Ne.symm hne)
  rw [World.cell?_of_block (w := w) (a := ⟨b, k, none⟩) hb, World.frozen?_of_block (w := w) (a := ⟨b, k, none⟩) hb]; exact h k hk
theorem bools7_new (w : World) (s : Set7) (T : TypeId) : BoolsAt (w.alloc (.cells #[.bool (s 0), .bool (s 1), .bool (s 2), .bool (s 3), .bool (s 4), .bool (s 5), .bool (s 6)] T)) w.heap.size 7 s := fun k hk => by
  rw [World.cell?_alloc_new, World.frozen?_alloc_new]
  refine ⟨?_, rfl⟩
  rcases (show k = 0 ∨ k = 1 ∨ k = 2 ∨ k = 3 ∨ k = 4 ∨ k = 5 ∨ k = 6 by omega) with h | h | h | h | h | h | h <;> subst h <;> rfl
end Go.Proofs.Ytccjognnehoodaf

namespace Go.Proofs.Ytccjognnehoodaf
open Go.RowKit

theorem cast_beq (t j : Nat) : ((t : Int) == (j : Int)) = decide (j = t) := by
  rw [Bool.eq_iff_iff]
  simp
  omega
theorem set_named (s : Set7) (t a j : Nat) : setS (setS s t true) a true j = (s j || ((t : Int) == (j : Int) || (a : Int) == (j : Int))) := by
  rw [cast_beq, cast_beq]
  unfold setS
  by_cases h1 : j = a
  · simp [h1]
  · by_cases h2 : j = t <;> simp [h1, h2]

set_option maxHeartbeats 4000000 in
theorem named_any (l : List Edge2) (v : Value) (w : World) (hI : IsEdges w v l) (hd : ∀ e ∈ l, (1 ≤ e.1 ∧ e.1 ≤ 6) ∧ (1 ≤ e.2 ∧ e.2 ≤ 6)) (hl : l.length ≤ 60) :
    Calls Try.prog 59 #[v] w fun e w' => e = .returned (.agg #[.bool (namedS l 0), .bool (namedS l 1), .bool (namedS l 2), .bool (namedS l 3), .bool (namedS l 4), .bool (namedS l 5), .bool (namedS l 6)]) ∧ Below w.heap.size w w' := by
  obtain ⟨ad, b, off, cap, rfl, ha, -, hbB, hops⟩ := hI
  have HO : Hid (∀ W, Below w.heap.size w W → ∀ k, k < l.length → ad = some ⟨b, off, none⟩ ∧ W.cell? ⟨b, off + k * 2, none⟩ = some (.int .i64 (l.getD k (0, 0)).1) ∧ W.cell? ⟨b, off + k * 2 + 1, none⟩ = some (.int .i64 (l.getD k (0, 0)).2)) := fun W hW k hk => ⟨ha (by omega), (hops.below hW hbB) k hk⟩
  have HD : Hid (∀ e ∈ l, (1 ≤ e.1 ∧ e.1 ≤ 6) ∧ (1 ≤ e.2 ∧ e.2 ≤ 6)) := hd
  clear ha hbB hops hd
  go_enter Try.func59, Try.ntmps59
  go_wp2
  go_loopw [8] (fun v8 wr => ∃ k : Nat, k ≤ l.length ∧ v8 = .int .i64 k ∧ Below w.heap.size w wr ∧ BoolsAt wr w.heap.size 7 (fun _ => false) ∧ BoolsAt wr (w.heap.size + 1) 7 (namedS (l.take k))) (fun v8 _ => l.length - (intOf v8).toNat)
  case atStart =>
    refine ⟨0, Nat.zero_le _, rfl, ((Below.refl _ w).alloc (Nat.le_refl _) _).alloc (by simp) _, (bools7_new w (fun _ => false) _).alloc _, ?_⟩
    have := bools7_new (w.alloc (Obj.cells #[Value.bool false, Value.bool false, Value.bool false, Value.bool false, Value.bool false, Value.bool false, Value.bool false] 100)) (fun _ => false) 100
    rw [List.take_zero]
    exact (by simpa using this : BoolsAt _ (w.heap.size + 1) 7 (fun _ => false))
  case round =>
    obtain ⟨k, hk, rfl, hbel, hz, hs⟩ := hrel
    have hB1 := hs.lt (by omega)
    have HZ : Hid (BoolsAt wr w.heap.size 7 (fun _ => false)) := hz
    have HS : Hid (BoolsAt wr (w.heap.size + 1) 7 (namedS (l.take k))) := hs
    clear hz hs
    by_cases hlt : k < l.length
    · obtain ⟨rfl, c0, c1⟩ := HO.out wr hbel k hlt
      obtain ⟨⟨t, a⟩, ho⟩ : ∃ o : Edge2, l.getD k (0, 0) = o := ⟨_, rfl⟩
      rw [ho] at c0 c1
      have hmem : (t, a) ∈ l := by rw [← ho]; simp [List.getD, List.getElem?_eq_getElem hlt]
      have hta := HD.out _ hmem
      simp only at hta c0 c1
      obtain ⟨t, rfl⟩ : ∃ n : Nat, t = n := ⟨t.toNat, by omega⟩
      obtain ⟨a, rfl⟩ : ∃ n : Nat, a = n := ⟨a.toNat, by omega⟩
      have HT : Hid (l.take (k + 1) = l.take k ++ [((t : Int), (a : Int))]) := by
        show l.take (k + 1) = l.take k ++ [((t : Int), (a : Int))]
        rw [List.take_succ_eq_append_getElem hlt, ← ho]; simp [List.getD, List.getElem?_eq_getElem hlt]
      have ht1 : 1 ≤ t := by omega
      have ht6 : t ≤ 6 := by omega
      have ha1 : 1 ≤ a := by omega
      have ha6 : a ≤ 6 := by omega
      clear ho hmem hta
      obtain ⟨f0, z0⟩ := HS.out t (by omega)
      obtain ⟨f1, z1⟩ := HS.out a (by omega)
      have hsz := hbel.size
      have ht7 : (t : Int) < 7 := by omega
      have ha7 : (a : Int) < 7 := by omega
      have hB0 : w.heap.size < wr.heap.size := by omega
      by_cases hta : t = a
      · have HEQ : Hid (t = a) := hta
        subst hta
        go_wp2
        go_region
        all_goals
          go_wp2
          go_roundw
          case rel =>
            refine ⟨k + 1, by omega, by go_num, (((hbel.setCell (by simp) _).setCell (by simp) _).alloc (by simpa using hsz) _).drew, (((HZ.out.far _ (by simp)).far _ (by simp)).alloc _).drew, ((((HS.out.set true (by omega)).set true (by omega)).alloc _).drew).congr ?_⟩
            intro j _
            rw [HT.out, namedS_snoc, set_named]
          case measure => simp [intOf]; omega
      · have hat : ¬ a = t := fun e => hta e.symm
        go_wp2
        go_region
        all_goals
          go_wp2
          go_roundw
          case rel =>
            refine ⟨k + 1, by omega, by go_num, (((hbel.setCell (by simp) _).setCell (by simp) _).alloc (by simpa using hsz) _).drew, (((HZ.out.far _ (by simp)).far _ (by simp)).alloc _).drew, ((((HS.out.set true (by omega)).set true (by omega)).alloc _).drew).congr ?_⟩
            intro j _
            rw [HT.out, namedS_snoc, set_named]
          case measure => simp [intOf]; omega
    · have HE : Hid (namedS (l.take k) = namedS l) := by show namedS (l.take k) = namedS l; rw [List.take_of_length_le (by omega)]
      have f0 := (HS.out 0 (by omega)).1
      have f1 := (HS.out 1 (by omega)).1
      have f2 := (HS.out 2 (by omega)).1
      have f3 := (HS.out 3 (by omega)).1
      have f4 := (HS.out 4 (by omega)).1
      have f5 := (HS.out 5 (by omega)).1
      have f6 := (HS.out 6 (by omega)).1
      have hz : ∀ k, k < 7 → wr.cell? ⟨w.heap.size, k, none⟩ = some (.bool false) := fun k hk => (HZ.out k hk).1
      have hy : ∀ k, k < 7 → wr.frozen? ⟨w.heap.size, k, none⟩ = false := fun k hk => (HZ.out k hk).2
      rw [HE.out] at f0 f1 f2 f3 f4 f5 f6
      clear HZ HS
      go_wp2
      refine bodyPost_ret (v := .agg #[.bool (namedS l 0), .bool (namedS l 1), .bool (namedS l 2), .bool (namedS l 3), .bool (namedS l 4), .bool (namedS l 5), .bool (namedS l 6)]) (by simp [results, Try.results59, go_sem, hz]) rfl ⟨rfl, ?_⟩
      exact ((((((hbel.setCell (Nat.le_refl _) _).setCell (Nat.le_refl _) _).setCell (Nat.le_refl _) _).setCell (Nat.le_refl _) _).setCell (Nat.le_refl _) _).setCell (Nat.le_refl _) _).setCell (Nat.le_refl _) _
end Go.Proofs.Ytccjognnehoodaf
