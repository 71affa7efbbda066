/-
  PROVED HERE: graph.stepsOf tells of right edges from which deal one leads to which. Old memory stays as it was.
  Conditions: none.
  PROVED HERE: of the blocks below a base only one has turned (Past); a closure laid into a block of its own.
  Conditions: none.
-/
import Derived.Test.YtmjjiehnjghndaaGreatMgao
import Derived.Test.YtmjjiehnjghndaaGreatMgbd
import Derived.Test.YtmjjiehnjghndaaGreatMgac
namespace Go.Proofs.YtmjjiehnjghndaaGreat
open Go.RowKit

theorem set_steps (l : List Edge2) (t a : Nat) : setM (stepsS l) t a = stepsS (l ++ [((t : Int), (a : Int))]) := by
  funext i k
  rw [stepsS_snoc, cast_beq, cast_beq]
  unfold setM
  by_cases h : i = t ∧ k = a
  · rw [if_pos h, h.1, h.2]; simp
  · rw [if_neg h]
    by_cases h1 : i = t
    · by_cases h2 : k = a
      · exact absurd ⟨h1, h2⟩ h
      · simp [h2]
    · simp [h1]

set_option maxHeartbeats 4000000 in
theorem stepsOf_any (l : List Edge2) (v : Value) (w : World) (hI : IsEdges w v l) (hd : ∀ e ∈ l, (1 ≤ e.1 ∧ e.1 ≤ 6) ∧ (1 ≤ e.2 ∧ e.2 ≤ 6)) (hl : l.length ≤ 60) :
    Calls Tryz.prog 116 #[v] w fun e w' => e = .returned (.agg (cells49 (stepsS l))) ∧ Below w.heap.size w w' := by
  obtain ⟨ad, b, off, cap, rfl, ha, -, hbB, hops⟩ := hI
  have HO : Hid (∀ W, Below w.heap.size w W → ∀ k, k < l.length → ad = some ⟨b, off, none⟩ ∧ W.cell? ⟨b, off + k * 2, none⟩ = some (.int .i64 (l.getD k (0, 0)).1) ∧ W.cell? ⟨b, off + k * 2 + 1, none⟩ = some (.int .i64 (l.getD k (0, 0)).2)) := fun W hW k hk => ⟨ha (by omega), (hops.below hW hbB) k hk⟩
  have HD : Hid (∀ e ∈ l, (1 ≤ e.1 ∧ e.1 ≤ 6) ∧ (1 ≤ e.2 ∧ e.2 ≤ 6)) := hd
  clear ha hbB hops hd
  go_enter Tryz.func116, Tryz.ntmps116
  go_wp2
  go_loopw [8] (fun v8 wr => ∃ k : Nat, k ≤ l.length ∧ v8 = .int .i64 k ∧ Below w.heap.size w wr ∧ MatAt wr w.heap.size (fun _ _ => false) ∧ MatAt wr (w.heap.size + 1) (stepsS (l.take k))) (fun v8 _ => l.length - (intOf v8).toNat)
  case atStart =>
    refine ⟨0, Nat.zero_le _, rfl, ((Below.refl _ w).alloc (Nat.le_refl _) _).alloc (by simp) _, (mat_fresh w _ rfl).alloc _, (mat_fresh2 w _ _ rfl).congr rfl⟩
  case round =>
    obtain ⟨k, hk, rfl, hbel, hz, hs⟩ := hrel
    have hB1 := hs.lt
    have HZ : Hid (MatAt wr w.heap.size (fun _ _ => false)) := hz
    have HS : Hid (MatAt wr (w.heap.size + 1) (stepsS (l.take k))) := hs
    clear hz hs
    by_cases hlt : k < l.length
    · obtain ⟨rfl, c0, c1⟩ := HO.out wr hbel k hlt
      obtain ⟨⟨t, a⟩, ho⟩ : ∃ o : Edge2, l.getD k (0, 0) = o := ⟨_, rfl⟩
      rw [ho] at c0 c1
      have hmem : (t, a) ∈ l := by rw [← ho]; simp [List.getD, List.getElem?_eq_getElem hlt]
      have hta := HD.out _ hmem
      simp only at hta c0 c1
      obtain ⟨t, rfl⟩ : ∃ n : Nat, t = n := ⟨t.toNat, by omega⟩
      obtain ⟨a, rfl⟩ : ∃ n : Nat, a = n := ⟨a.toNat, by omega⟩
      have HT : Hid (l.take (k + 1) = l.take k ++ [((t : Int), (a : Int))]) := by
        show l.take (k + 1) = l.take k ++ [((t : Int), (a : Int))]
        rw [List.take_succ_eq_append_getElem hlt, ← ho]; simp [List.getD, List.getElem?_eq_getElem hlt]
      have ht1 : 1 ≤ t := by omega
      have ht6 : t ≤ 6 := by omega
      have ha1 : 1 ≤ a := by omega
      have ha6 : a ≤ 6 := by omega
      clear ho hmem hta
      have hsz := hbel.size
      have ht7 : (t : Int) < 7 := by omega
      have ha7 : (a : Int) < 7 := by omega
      have hB0 : w.heap.size < wr.heap.size := by omega
      have f0 := HS.out.cell (i := t) (k := a) (by omega) (by omega)
      have z0 := HS.out.thaw (t * 7 + a)
      go_wp2
      go_region
      all_goals
        go_wp2
        go_roundw
        case rel => exact ⟨k + 1, by omega, by go_num, ((hbel.setCell (by simp) _).alloc (by simpa using hsz) _).drew, ((HZ.out.far _ (by simp)).alloc _).drew, (((HS.out.set (by omega)).alloc _).drew).congr (by rw [HT.out, set_steps])⟩
        case measure => simp [intOf]; omega
    · have HS' : Hid (MatAt wr (w.heap.size + 1) (stepsS l)) := by
        have h1 := HS.out
        rw [List.take_of_length_le (by omega)] at h1
        exact h1
      clear HS
      go_wp2_with (first | refine wpList_load_row rfl 149 (.tmp 3) rfl (w.heap.size + 1) rfl 149 (cells49 (stepsS l)) (0, 0) _ HS'.out Tryz.underlying149 rfl (mat_info' _) ?_ | refine wpList_store_row rfl 149 (.tmp 2) (.tmp 19) rfl w.heap.size (cells49 (stepsS l)) rfl rfl 149 (cells49 fun _ _ => false) HZ.out (mat_info' _) (by rw [cells49_size, cells49_size]) (cells49_one _) ?_)
      exact bodyPost_ret (v := .agg (cells49 (stepsS l))) (results_cell_row Tryz.results116 _ _ w.heap.size 149 (cells49 (stepsS l)) (0, 0) _ rfl (setRow_heap _ _ _ _ _ _ HZ.out) Tryz.underlying149 rfl (mat_info' _)) rfl ⟨rfl, below_setRow hbel (Nat.le_refl _) _⟩
end Go.Proofs.YtmjjiehnjghndaaGreat

namespace Go.Proofs.YtmjjiehnjghndaaGreat
open Go.RowKit

/-- Of the blocks below a base only one has turned. -/
structure Past (a B : Nat) (w w' : World) : Prop where
  os : w'.os = w.os
  tape : w'.tape = w.tape
  output : w'.output = w.output
  size : w.heap.size ≤ w'.heap.size
  block : ∀ k, k < B → k ≠ a → w'.heap[k]? = w.heap[k]?
theorem Past.refl (a B : Nat) (w : World) : Past a B w w := ⟨rfl, rfl, rfl, Nat.le_refl _, fun _ _ _ => rfl⟩
theorem Past.trans {a B : Nat} {w w1 w2 : World} (h : Past a B w w1) (k : Past a B w1 w2) : Past a B w w2 :=
  ⟨k.os.trans h.os, k.tape.trans h.tape, k.output.trans h.output, Nat.le_trans h.size k.size, fun j h1 h2 => (k.block j h1 h2).trans (h.block j h1 h2)⟩
theorem Past.mono {a B C : Nat} {w w1 : World} (h : Past a B w w1) (hC : C ≤ B) : Past a C w w1 := ⟨h.os, h.tape, h.output, h.size, fun k h1 h2 => h.block k (by omega) h2⟩
theorem Past.set {a B : Nat} {w w1 : World} (h : Past a B w w1) (o : Nat) (v : Value) : Past a B w (w1.setCell ⟨a, o, none⟩ v) :=
  ⟨h.os, h.tape, h.output, by simpa using h.size, fun k h1 h2 => (Below.heap_setCell w1 ⟨a, o, none⟩ v k h2).trans (h.block k h1 h2)⟩
theorem Past.drew {a B : Nat} {w w1 : World} (h : Past a B w w1) : Past a B w w1.drew := ⟨h.os, h.tape, h.output, h.size, h.block⟩
theorem Past.below {a B : Nat} {w w1 : World} (h : Past a B w w1) {C : Nat} (hC : C ≤ B) (ha : C ≤ a) : Below C w w1 := ⟨h.os, h.tape, h.output, h.size, fun k hk => h.block k (by omega) (by omega)⟩
theorem Past.cell {a B : Nat} {w w1 : World} (h : Past a B w w1) {p : Addr} (hp : p.block < B) (ha : p.block ≠ a) : w1.cell? p = w.cell? p := World.cell?_of_block (h.block _ hp ha)
theorem MatAt.past {w w1 : World} {b a B : Nat} {s : Step7} (h : MatAt w b s) (hp : Past a B w w1) (hB : b < B) (ha : b ≠ a) : MatAt w1 b s := (hp.block b hB ha).trans h

theorem store_func {P : Program} (w : World) (f : Fn) (ts cs : Array Value) (old : Value) (T : TypeId) (n : Nat) (hn : n = w.heap.size) :
    (store ⟨n, 0, none⟩ (.func f ts cs)).run P (w.alloc (.cells #[old] T)) = .ok () (w.alloc (.cells #[.func f ts cs] T)) := by
  subst hn
  rw [run_store _ _ _ _ _ rfl]
  simp [World.setCell_alloc_new]

end Go.Proofs.YtmjjiehnjghndaaGreat
