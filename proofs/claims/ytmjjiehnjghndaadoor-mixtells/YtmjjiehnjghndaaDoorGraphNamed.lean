/-
  PROVED HERE: graph.named gives the deals that right edges name. Old memory stays as it was.
  Conditions: none.
-/
import Derived.Test.YtmjjiehnjghndaaDoorGraphBools
namespace Go.Proofs.YtmjjiehnjghndaaDoor
open Go.RowKit

theorem cast_beq (t j : Nat) : ((t : Int) == (j : Int)) = decide (j = t) := by
  rw [Bool.eq_iff_iff]
  simp
  omega
theorem set_named (s : Set7) (t a j : Nat) : setS (setS s t true) a true j = (s j || ((t : Int) == (j : Int) || (a : Int) == (j : Int))) := by
  rw [cast_beq, cast_beq]
  unfold setS
  by_cases h1 : j = a
  · simp [h1]
  · by_cases h2 : j = t <;> simp [h1, h2]

set_option maxHeartbeats 4000000 in
theorem named_any (l : List Edge2) (v : Value) (w : World) (hI : IsEdges w v l) (hd : ∀ e ∈ l, (1 ≤ e.1 ∧ e.1 ≤ 6) ∧ (1 ≤ e.2 ∧ e.2 ≤ 6)) (hl : l.length ≤ 60) :
    Calls Tryd.prog 56 #[v] w fun e w' => e = .returned (.agg #[.bool (namedS l 0), .bool (namedS l 1), .bool (namedS l 2), .bool (namedS l 3), .bool (namedS l 4), .bool (namedS l 5), .bool (namedS l 6)]) ∧ Below w.heap.size w w' := by
  obtain ⟨ad, b, off, cap, rfl, ha, -, hbB, hops⟩ := hI
  have HO : Hid (∀ W, Below w.heap.size w W → ∀ k, k < l.length → ad = some ⟨b, off, none⟩ ∧ W.cell? ⟨b, off + k * 2, none⟩ = some (.int .i64 (l.getD k (0, 0)).1) ∧ W.cell? ⟨b, off + k * 2 + 1, none⟩ = some (.int .i64 (l.getD k (0, 0)).2)) := fun W hW k hk => ⟨ha (by omega), (hops.below hW hbB) k hk⟩
  have HD : Hid (∀ e ∈ l, (1 ≤ e.1 ∧ e.1 ≤ 6) ∧ (1 ≤ e.2 ∧ e.2 ≤ 6)) := hd
  clear ha hbB hops hd
  go_enter Tryd.func56, Tryd.ntmps56
  go_wp2
  go_loopw [8] (fun v8 wr => ∃ k : Nat, k ≤ l.length ∧ v8 = .int .i64 k ∧ Below w.heap.size w wr ∧ BoolsAt wr w.heap.size 7 (fun _ => false) ∧ BoolsAt wr (w.heap.size + 1) 7 (namedS (l.take k))) (fun v8 _ => l.length - (intOf v8).toNat)
  case atStart =>
    refine ⟨0, Nat.zero_le _, rfl, ((Below.refl _ w).alloc (Nat.le_refl _) _).alloc (by simp) _, (bools7_new w (fun _ => false) _).alloc _, ?_⟩
    have := bools7_new (w.alloc (Obj.cells #[Value.bool false, Value.bool false, Value.bool false, Value.bool false, Value.bool false, Value.bool false, Value.bool false] 96)) (fun _ => false) 96
    rw [List.take_zero]
    exact (by simpa using this : BoolsAt _ (w.heap.size + 1) 7 (fun _ => false))
  case round =>
    obtain ⟨k, hk, rfl, hbel, hz, hs⟩ := hrel
    have hB1 := hs.lt (by omega)
    have HZ : Hid (BoolsAt wr w.heap.size 7 (fun _ => false)) := hz
    have HS : Hid (BoolsAt wr (w.heap.size + 1) 7 (namedS (l.take k))) := hs
    clear hz hs
    by_cases hlt : k < l.length
    · obtain ⟨rfl, c0, c1⟩ := HO.out wr hbel k hlt
      obtain ⟨⟨t, a⟩, ho⟩ : ∃ o : Edge2, l.getD k (0, 0) = o := ⟨_, rfl⟩
      rw [ho] at c0 c1
      have hmem : (t, a) ∈ l := by rw [← ho]; simp [List.getD, List.getElem?_eq_getElem hlt]
      have hta := HD.out _ hmem
      simp only at hta c0 c1
      obtain ⟨t, rfl⟩ : ∃ n : Nat, t = n := ⟨t.toNat, by omega⟩
      obtain ⟨a, rfl⟩ : ∃ n : Nat, a = n := ⟨a.toNat, by omega⟩
      have HT : Hid (l.take (k + 1) = l.take k ++ [((t : Int), (a : Int))]) := by
        show l.take (k + 1) = l.take k ++ [((t : Int), (a : Int))]
        rw [List.take_succ_eq_append_getElem hlt, ← ho]; simp [List.getD, List.getElem?_eq_getElem hlt]
      have ht1 : 1 ≤ t := by omega
      have ht6 : t ≤ 6 := by omega
      have ha1 : 1 ≤ a := by omega
      have ha6 : a ≤ 6 := by omega
      clear ho hmem hta
      obtain ⟨f0, z0⟩ := HS.out t (by omega)
      obtain ⟨f1, z1⟩ := HS.out a (by omega)
      have hsz := hbel.size
      have ht7 : (t : Int) < 7 := by omega
      have ha7 : (a : Int) < 7 := by omega
      have hB0 : w.heap.size < wr.heap.size := by omega
      by_cases hta : t = a
      · have HEQ : Hid (t = a) := hta
        subst hta
        go_wp2
        go_region
        all_goals
          go_wp2
          go_roundw
          case rel =>
            refine ⟨k + 1, by omega, by go_num, (((hbel.setCell (by simp) _).setCell (by simp) _).alloc (by simpa using hsz) _).drew, (((HZ.out.far _ (by simp)).far _ (by simp)).alloc _).drew, ((((HS.out.set true (by omega)).set true (by omega)).alloc _).drew).congr ?_⟩
            intro j _
            rw [HT.out, namedS_snoc, set_named]
          case measure => simp [intOf]; omega
      · have hat : ¬ a = t := fun e => hta e.symm
        go_wp2
        go_region
        all_goals
          go_wp2
          go_roundw
          case rel =>
            refine ⟨k + 1, by omega, by go_num, (((hbel.setCell (by simp) _).setCell (by simp) _).alloc (by simpa using hsz) _).drew, (((HZ.out.far _ (by simp)).far _ (by simp)).alloc _).drew, ((((HS.out.set true (by omega)).set true (by omega)).alloc _).drew).congr ?_⟩
            intro j _
            rw [HT.out, namedS_snoc, set_named]
          case measure => simp [intOf]; omega
    · have HE : Hid (namedS (l.take k) = namedS l) := by show namedS (l.take k) = namedS l; rw [List.take_of_length_le (by omega)]
      have f0 := (HS.out 0 (by omega)).1
      have f1 := (HS.out 1 (by omega)).1
      have f2 := (HS.out 2 (by omega)).1
      have f3 := (HS.out 3 (by omega)).1
      have f4 := (HS.out 4 (by omega)).1
      have f5 := (HS.out 5 (by omega)).1
      have f6 := (HS.out 6 (by omega)).1
      have hz : ∀ k, k < 7 → wr.cell? ⟨w.heap.size, k, none⟩ = some (.bool false) := fun k hk => (HZ.out k hk).1
      have hy : ∀ k, k < 7 → wr.frozen? ⟨w.heap.size, k, none⟩ = false := fun k hk => (HZ.out k hk).2
      rw [HE.out] at f0 f1 f2 f3 f4 f5 f6
      clear HZ HS
      go_wp2
      refine bodyPost_ret (v := .agg #[.bool (namedS l 0), .bool (namedS l 1), .bool (namedS l 2), .bool (namedS l 3), .bool (namedS l 4), .bool (namedS l 5), .bool (namedS l 6)]) (by simp [results, Tryd.results56, go_sem, hz]) rfl ⟨rfl, ?_⟩
      exact ((((((hbel.setCell (Nat.le_refl _) _).setCell (Nat.le_refl _) _).setCell (Nat.le_refl _) _).setCell (Nat.le_refl _) _).setCell (Nat.le_refl _) _).setCell (Nat.le_refl _) _).setCell (Nat.le_refl _) _
end Go.Proofs.YtmjjiehnjghndaaDoor
