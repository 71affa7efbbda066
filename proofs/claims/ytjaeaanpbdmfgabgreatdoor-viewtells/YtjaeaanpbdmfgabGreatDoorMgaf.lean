/-
  PROVED HERE: how a list of ops lies in memory, as a slice value that came in or that the program made itself; history.Check over such a value.
  Conditions: none.
  PROVED HERE: plain facts on lists of ops, with no word of the program: which two are at odds, the pairs of places that are, how such a list grows by one, how long it is at most.
  Conditions: none.
-/
import Derived.Test.YtjaeaanpbdmfgabGreatDoorCheck
import Derived.Test.YtjaeaanpbdmfgabGreatDoorPlain
namespace Go.Proofs.YtjaeaanpbdmfgabGreatDoor
open Go.RowKit

/-- The cells of ops. -/
def flat : List Op3 → List Value
  | [] => []
  | o :: r => .int .i64 o.1 :: .int .i64 o.2.1 :: .int .i64 o.2.2 :: flat r
theorem flat_length (l : List Op3) : (flat l).length = l.length * 3 := by
  induction l with
  | nil => rfl
  | cons o r ih => simp [flat, ih]; omega
theorem flat_append (l m : List Op3) : flat (l ++ m) = flat l ++ flat m := by
  induction l with
  | nil => rfl
  | cons o r ih => simp [flat, ih]
theorem flat_one (l : List Op3) : ∀ u ∈ flat l, u.oneCell' = true := by
  induction l with
  | nil => intro u hu; cases hu
  | cons o r ih =>
    intro u hu
    simp only [flat, List.mem_cons] at hu
    rcases hu with rfl | rfl | rfl | hu
    · rfl
    · rfl
    · rfl
    · exact ih u hu
theorem flat_at (l : List Op3) : ∀ i, i < l.length → (flat l)[i * 3]? = some (.int .i64 (l.getD i (0, 0, 0)).1) ∧ (flat l)[i * 3 + 1]? = some (.int .i64 (l.getD i (0, 0, 0)).2.1) ∧ (flat l)[i * 3 + 2]? = some (.int .i64 (l.getD i (0, 0, 0)).2.2) := by
  induction l with
  | nil => intro i hi; cases hi
  | cons o r ih =>
    intro i hi
    cases i with
    | zero => exact ⟨rfl, rfl, rfl⟩
    | succ i =>
      have := ih i (by simpa using hi)
      rw [show (i + 1) * 3 = i * 3 + 3 by omega]
      simpa [flat] using this
/-- From cells to ops, and back. -/
theorem opsAt_of {w : World} {b off : Nat} {l : List Op3} (h : ∀ j u, (flat l)[j]? = some u → w.cell? ⟨b, off + j, none⟩ = some u) : OpsAt w b off l := by
  intro i hi
  obtain ⟨h0, h1, h2⟩ := flat_at l i hi
  exact ⟨h _ _ h0, by rw [Nat.add_assoc]; exact h _ _ h1, by rw [Nat.add_assoc]; exact h _ _ h2⟩
theorem OpsAt.flat {w : World} {b off : Nat} {l : List Op3} (h : OpsAt w b off l) : ∀ j u, (flat l)[j]? = some u → w.cell? ⟨b, off + j, none⟩ = some u := by
  intro j u hj
  have hlt : j < l.length * 3 := by
    rw [← flat_length]
    exact (List.getElem?_eq_some_iff.1 hj).1
  obtain ⟨c0, c1, c2⟩ := h (j / 3) (by omega)
  obtain ⟨f0, f1, f2⟩ := flat_at l (j / 3) (by omega)
  rcases (show j = j / 3 * 3 ∨ j = j / 3 * 3 + 1 ∨ j = j / 3 * 3 + 2 by omega) with e | e | e
  · rw [← e] at c0 f0; rw [f0] at hj; rw [c0, ← hj]
  · rw [Nat.add_assoc, ← e] at c1; rw [← e] at f1; rw [f1] at hj; rw [c1, ← hj]
  · rw [Nat.add_assoc, ← e] at c2; rw [← e] at f2; rw [f2] at hj; rw [c2, ← hj]
theorem OpsAt.below {w w1 : World} {b off B : Nat} {l : List Op3} (h : OpsAt w b off l) (hb : Below B w w1) (hB : b < B ∨ l = []) : OpsAt w1 b off l := by
  intro i hi
  have hB' : b < B := by
    rcases hB with h | h
    · exact h
    · subst h; cases hi
  rw [hb.cell (p := ⟨b, off + i * 3, none⟩) hB', hb.cell (p := ⟨b, off + i * 3 + 1, none⟩) hB', hb.cell (p := ⟨b, off + i * 3 + 2, none⟩) hB']
  exact h i hi


theorem infoOp : (Tryz.prog.info? 37).map (fun i => (i.zero, i.size, i.bytes)) = some (some (.agg #[.int .i64 0, .int .i64 0, .int .i64 0]), 3, 24) := by kernel_rfl

/-- A slice value that holds a list of ops. -/
def IsOps (w : World) (v : Value) (l : List Op3) : Prop :=
  ∃ (ad : Option Addr) (b off cap : Nat), v = .slice ad l.length cap ∧ (0 < l.length → ad = some ⟨b, off, none⟩) ∧ (ad = none → l.length = 0 ∧ cap = 0) ∧ (b < w.heap.size ∨ l = []) ∧ OpsAt w b off l
theorem IsOps.below {w w1 : World} {B : Nat} {v : Value} {l : List Op3} (h : IsOps w v l) (hb : Below B w w1) (hB : w.heap.size ≤ B) : IsOps w1 v l := by
  obtain ⟨ad, b, off, cap, hv, ha, hn, hbB, hops⟩ := h
  have hs := hb.size
  refine ⟨ad, b, off, cap, hv, ha, hn, ?_, hops.below hb ?_⟩
  · rcases hbB with h | h
    · exact .inl (by omega)
    · exact .inr h
  · rcases hbB with h | h
    · exact .inl (by omega)
    · exact .inr h
theorem isOps_nil (w : World) : IsOps w (.slice none 0 0) [] := ⟨none, 0, 0, 0, rfl, fun h => absurd h (by simp), fun _ => ⟨rfl, rfl⟩, .inr rfl, fun i hi => by simp at hi⟩
theorem isOps_own {w : World} {base e n : Nat} {v : Value} {l : List Op3} (h : w.ownsRow base e 3 v n (flat l)) (hl : l.length = n) : IsOps w v l := by
  have h' := h
  obtain ⟨_, ⟨hv, hd⟩ | ⟨g, cap, cur, hv, hb, hg, hn, hm, hsz, htk⟩⟩ := h'
  · have : l = [] := List.length_eq_zero_iff.1 (by omega)
    subst this
    rw [hv]
    exact isOps_nil w
  · refine ⟨some ⟨g, 0, none⟩, g, 0, cap, by rw [hl]; exact hv, fun _ => rfl, fun h => (by simp at h), .inl (h.lt g (by rw [hv]; rfl)).2, opsAt_of fun j u hj => ?_⟩
    have := h.cells (g := g) (by rw [hv]; rfl) j u hj
    rw [Addr.add_lit] at this
    exact this
theorem check_v (l : List Op3) (v : Value) (w : World) (h : IsOps w v l) :
    Calls Tryz.prog 57 #[v] w fun e w' => e = .returned (.tuple #[.int .i64 (chk l).1, errV (chk l).2]) ∧ Below w.heap.size w w' := by
  obtain ⟨ad, b, off, cap, rfl, ha, _, hbB, hops⟩ := h
  exact check_any l ad b off cap w ha hbB hops
theorem check_ok (l : List Op3) (v : Value) (w : World) (h : IsOps w v l) (hc : (chk l).2 = 0) :
    Calls Tryz.prog 57 #[v] w fun e w' => e = .returned (.tuple #[.int .i64 (chk l).1, .nilIface]) ∧ Below w.heap.size w w' := by
  refine (check_v l v w h).mono ?_
  rintro e w' ⟨he, hb⟩
  rw [hc] at he
  exact ⟨he, hb⟩
theorem check_bad (l : List Op3) (v : Value) (w : World) (h : IsOps w v l) (hc : (chk l).2 ≠ 0) :
    Calls Tryz.prog 57 #[v] w fun e w' => e = .returned (.tuple #[.int .i64 (chk l).1, .iface 58 (.int .i64 (chk l).2)]) ∧ Below w.heap.size w w' := by
  refine (check_v l v w h).mono ?_
  rintro e w' ⟨he, hb⟩
  rw [errV_ne hc] at he
  exact ⟨he, hb⟩
/-- One op just built lies there. -/
theorem one_at (w : World) (t a i : Int) : ∀ j u, (flat [(t, a, i)])[j]? = some u → (w.alloc (.cells #[.int .i64 t, .int .i64 a, .int .i64 i] 37)).cell? ((⟨w.heap.size, 0, none⟩ : Addr).add j) = some u := by
  intro j u hj
  match j, hj with
  | 0, hj => simp [flat] at hj; subst hj; simp [Addr.add]
  | 1, hj => simp [flat] at hj; subst hj; simp [Addr.add]
  | 2, hj => simp [flat] at hj; subst hj; simp [Addr.add]
  | k + 3, hj => simp [flat] at hj
end Go.Proofs.YtjaeaanpbdmfgabGreatDoor

namespace Go.Proofs.YtjaeaanpbdmfgabGreatDoor

/-- From and To. -/
abbrev Edge2 := Int × Int
/-- Two ops are at odds. -/
def oddB (o p : Op3) : Bool := o.1 != p.1 && (o.2.2 == p.2.2 && (o.2.1 == 2 || p.2.1 == 2))
def opAt (l : List Op3) (i : Nat) : Op3 := l.getD i (0, 0, 0)
/-- The pairs of a place and a later one ahead of k. -/
def rowTo (l : List Op3) (i k : Nat) : List Edge2 := ((List.range k).filter fun j => decide (i < j) && oddB (opAt l i) (opAt l j)).map fun (j : Nat) => ((i : Int), (j : Int))
def pairsTo (l : List Op3) (i : Nat) : List Edge2 := (List.range i).flatMap fun k => rowTo l k l.length
def pairsL (l : List Op3) : List Edge2 := pairsTo l l.length

theorem rowTo_first (l : List Op3) (i : Nat) : rowTo l i (i + 1) = [] := by
  unfold rowTo
  rw [List.map_eq_nil_iff, List.filter_eq_nil_iff]
  intro j hj
  have := List.mem_range.1 hj
  simp; omega
theorem rowTo_hit {l : List Op3} {i k : Nat} (hik : i < k) (h : oddB (opAt l i) (opAt l k) = true) : rowTo l i (k + 1) = rowTo l i k ++ [((i : Int), (k : Int))] := by
  unfold rowTo
  rw [List.range_succ, List.filter_append, List.map_append]
  simp [hik, h]
theorem rowTo_miss {l : List Op3} {i k : Nat} (h : oddB (opAt l i) (opAt l k) = false) : rowTo l i (k + 1) = rowTo l i k := by
  unfold rowTo
  rw [List.range_succ, List.filter_append, List.map_append]
  simp [h]
theorem pairsTo_zero (l : List Op3) : pairsTo l 0 = [] := rfl
theorem pairsTo_succ (l : List Op3) (i : Nat) : pairsTo l (i + 1) = pairsTo l i ++ rowTo l i l.length := by
  unfold pairsTo
  rw [List.range_succ, List.flatMap_append]
  simp
theorem rowTo_len (l : List Op3) (i k : Nat) : (rowTo l i k).length ≤ k := by
  unfold rowTo
  rw [List.length_map]
  have := List.length_filter_le (fun j => decide (i < j) && oddB (opAt l i) (opAt l j)) (List.range k)
  rwa [List.length_range] at this
theorem pairsTo_len (l : List Op3) (i : Nat) : (pairsTo l i).length ≤ i * l.length := by
  induction i with
  | zero => simp [pairsTo_zero]
  | succ i ih =>
    rw [pairsTo_succ, List.length_append, Nat.succ_mul]
    have := rowTo_len l i l.length
    omega
/-- What the loops hold. -/
def accTo (l : List Op3) (i k : Nat) : List Edge2 := pairsTo l i ++ rowTo l i k
theorem accTo_len (l : List Op3) (i k : Nat) (hl : l.length ≤ 40) (hi : i ≤ l.length) (hk : k ≤ l.length) : (accTo l i k).length ≤ 1640 := by
  unfold accTo
  rw [List.length_append]
  have h1 := rowTo_len l i k
  have h2 := pairsTo_len l i
  have h3 : i * l.length ≤ 40 * 40 := Nat.mul_le_mul (by omega) hl
  omega
theorem accTo_first (l : List Op3) (i : Nat) : accTo l i (i + 1) = pairsTo l i := by unfold accTo; rw [rowTo_first]; simp
theorem accTo_last (l : List Op3) (i k : Nat) (h : k = l.length) : accTo l i k = pairsTo l (i + 1) := by unfold accTo; rw [h, pairsTo_succ]
theorem accTo_hit {l : List Op3} {i k : Nat} (hik : i < k) (h : oddB (opAt l i) (opAt l k) = true) : accTo l i (k + 1) = accTo l i k ++ [((i : Int), (k : Int))] := by
  unfold accTo; rw [rowTo_hit hik h, List.append_assoc]
theorem accTo_miss {l : List Op3} {i k : Nat} (h : oddB (opAt l i) (opAt l k) = false) : accTo l i (k + 1) = accTo l i k := by
  unfold accTo; rw [rowTo_miss h]
theorem pairsL_len (l : List Op3) (hl : l.length ≤ 40) : (pairsL l).length ≤ 1600 := by
  have h2 := pairsTo_len l l.length
  have h3 : l.length * l.length ≤ 40 * 40 := Nat.mul_le_mul hl hl
  unfold pairsL
  omega
theorem mem_pairs {l : List Op3} {e : Edge2} : e ∈ pairsL l ↔ ∃ i j : Nat, i < j ∧ j < l.length ∧ oddB (opAt l i) (opAt l j) = true ∧ e = ((i : Int), (j : Int)) := by
  unfold pairsL pairsTo
  rw [List.mem_flatMap]
  constructor
  · rintro ⟨i, hi, he⟩
    unfold rowTo at he
    obtain ⟨j, hj, rfl⟩ := List.mem_map.1 he
    obtain ⟨hj1, hj2⟩ := List.mem_filter.1 hj
    simp at hj1 hj2
    exact ⟨i, j, hj2.1, hj1, hj2.2, rfl⟩
  · rintro ⟨i, j, hij, hj, ho, rfl⟩
    refine ⟨i, List.mem_range.2 (by omega), ?_⟩
    unfold rowTo
    exact List.mem_map.2 ⟨j, List.mem_filter.2 ⟨List.mem_range.2 hj, by simp [hij, ho]⟩, rfl⟩
/-- Who only reads is at odds with nobody. -/
theorem odd_reads {o p : Op3} (h1 : o.2.1 ≠ 2) (h2 : p.2.1 ≠ 2) : oddB o p = false := by simp [oddB, h1, h2]
theorem opAt_mem {l : List Op3} {i : Nat} (h : i < l.length) : opAt l i ∈ l := by
  unfold opAt
  simp [List.getD, List.getElem?_eq_getElem h]
theorem pairs_reads {l : List Op3} (h : ∀ o ∈ l, o.2.1 ≠ 2) : pairsL l = [] := by
  refine List.eq_nil_iff_forall_not_mem.2 fun e he => ?_
  obtain ⟨i, j, hij, hj, ho, _⟩ := mem_pairs.1 he
  rw [odd_reads (h _ (opAt_mem (by omega))) (h _ (opAt_mem hj))] at ho
  cases ho
theorem fact_pairs : pairsL [(1, 1, 1), (2, 2, 1)] = [(0, 1)] := by decide
theorem fact_right : chk [(1, 1, 1), (2, 2, 1)] = (0, 0) := by decide
end Go.Proofs.YtjaeaanpbdmfgabGreatDoor
