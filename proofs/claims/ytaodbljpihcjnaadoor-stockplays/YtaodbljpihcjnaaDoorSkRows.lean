/-
  PROVED HERE: how a list of lists of whole numbers lies in memory, as a slice value of slice values; what the first three of a row are.
  Conditions: none.
-/
import Derived.Test.YtaodbljpihcjnaaDoorIntRow
namespace Go.Proofs.YtaodbljpihcjnaaDoor
open Go.RowKit

/-- A slice value that holds a list of lists of numbers. -/
def IsRows (w : World) (v : Value) (rs : List (List Int)) : Prop :=
  ∃ (ad : Option Addr) (b off cap : Nat), v = .slice ad rs.length cap ∧ (0 < rs.length → ad = some ⟨b, off, none⟩) ∧ (b < w.heap.size ∨ rs = []) ∧
    ∀ i, i < rs.length → ∃ u, w.cell? ⟨b, off + i, none⟩ = some u ∧ IsInts w u (rs.getD i [])
theorem IsRows.below {w w1 : World} {B : Nat} {v : Value} {rs : List (List Int)} (h : IsRows w v rs) (hb : Below B w w1) (hB : w.heap.size ≤ B) : IsRows w1 v rs := by
  obtain ⟨ad, b, off, cap, hv, ha, hbB, hc⟩ := h
  have hs := hb.size
  refine ⟨ad, b, off, cap, hv, ha, ?_, fun i hi => ?_⟩
  · rcases hbB with h | h
    · exact .inl (by omega)
    · exact .inr h
  · have hlt : b < B := by
      rcases hbB with h | h
      · omega
      · subst h; cases hi
    obtain ⟨u, h1, h2⟩ := hc i hi
    exact ⟨u, (hb.cell (p := ⟨b, off + i, none⟩) hlt).trans h1, h2.below hb hB⟩
/-- The first three of a row, when j of them were gone over. -/
def rowN (r : List Int) (j k : Nat) : Int := if k < j then r.getD k 0 else 0
def rowC (r : List Int) (j : Nat) : Array Value := #[.int .i64 (rowN r j 0), .int .i64 (rowN r j 1), .int .i64 (rowN r j 2)]
def rowV (r : List Int) (k : Nat) : Int := r.getD k 0
theorem rowC_zero (r : List Int) : rowC r 0 = #[.int .i64 0, .int .i64 0, .int .i64 0] := rfl
theorem rowC_succ (r : List Int) {j : Nat} (h : j < 3) : (rowC r j).setIfInBounds j (.int .i64 (r.getD j 0)) = rowC r (j + 1) := by
  match j, h with
  | 0, _ => simp [rowC, rowN]
  | 1, _ => simp [rowC, rowN]
  | 2, _ => simp [rowC, rowN]
theorem rowC_end (r : List Int) {j : Nat} (hj : j ≤ r.length) (h3 : j ≤ 3) (h : ¬ (j < r.length ∧ j < 3)) : rowC r j = #[.int .i64 (rowV r 0), .int .i64 (rowV r 1), .int .i64 (rowV r 2)] := by
  have key : ∀ k, k < 3 → rowN r j k = rowV r k := fun k hk => by
    unfold rowN rowV
    split
    · rfl
    · rename_i h1
      rw [List.getD_eq_getElem?_getD, List.getElem?_eq_none (by omega)]
      rfl
  unfold rowC
  rw [key 0 (by decide), key 1 (by decide), key 2 (by decide)]
end Go.Proofs.YtaodbljpihcjnaaDoor
