/-
  PROVED HERE: laneref2.who answers as the plain whoK says. Nothing turns.
  Conditions: the lists are short.
-/
import Derived.Test.YtccjognnehoodafRefKind0
namespace Go.Proofs.Ytccjognnehoodaf
open Go.RowKit

/-- A slice value that holds deals of a run. -/
def IsDeals (w : World) (v : Value) (ds : List Int) (of : Int → Dl) : Prop :=
  ∃ (ad : Option Addr) (b off cap : Nat), v = .slice ad ds.length cap ∧ (0 < ds.length → ad = some ⟨b, off, none⟩) ∧ (b < w.heap.size ∨ ds = []) ∧ ∀ i, i < ds.length → ∃ sv wv, DlIs w (of (ds.getD i 0)) sv wv ∧
    w.cell? ⟨b, off + i * 5, none⟩ = some (.int .i64 (ds.getD i 0)) ∧ w.cell? ⟨b, off + i * 5 + 1, none⟩ = some (.int .i64 (of (ds.getD i 0)).began) ∧ w.cell? ⟨b, off + i * 5 + 2, none⟩ = some (.int .i64 (of (ds.getD i 0)).ended) ∧ w.cell? ⟨b, off + i * 5 + 3, none⟩ = some sv ∧ w.cell? ⟨b, off + i * 5 + 4, none⟩ = some wv
theorem IsDeals.below {w w1 : World} {B : Nat} {v : Value} {ds : List Int} {of : Int → Dl} (h : IsDeals w v ds of) (hb : Below B w w1) (hB : w.heap.size ≤ B) : IsDeals w1 v ds of := by
  obtain ⟨ad, b, off, cap, hv, ha, hbB, hc⟩ := h
  have hs := hb.size
  refine ⟨ad, b, off, cap, hv, ha, ?_, fun i hi => ?_⟩
  · rcases hbB with h | h
    · exact .inl (by omega)
    · exact .inr h
  · obtain ⟨sv, wv, hd, c⟩ := hc i hi
    rcases hbB with h | h
    · refine ⟨sv, wv, hd.below hb hB, ?_⟩
      rw [hb.cell (p := ⟨b, off + i * 5, none⟩) (by simp; omega), hb.cell (p := ⟨b, off + i * 5 + 1, none⟩) (by simp; omega), hb.cell (p := ⟨b, off + i * 5 + 2, none⟩) (by simp; omega), hb.cell (p := ⟨b, off + i * 5 + 3, none⟩) (by simp; omega), hb.cell (p := ⟨b, off + i * 5 + 4, none⟩) (by simp; omega)]
      exact c
    · subst h; simp at hi
theorem whoK_snoc (ds : List Int) (of : Int → Dl) (t item time below : Int) : whoK (ds ++ [t]) of item time below = if (!inB (of t).wrote item || decide (time ≤ (of t).ended)) = true then whoK ds of item time below else if below = 0 then t else if t < below ∧ whoK ds of item time below < t then t else whoK ds of item time below := by
  unfold whoK
  rw [List.foldl_append]
  rfl
theorem retN {a b : Int} (h : a = b) : Ending.returned (.int .i64 a) = .returned (.int .i64 b) := by rw [h]
end Go.Proofs.Ytccjognnehoodaf
