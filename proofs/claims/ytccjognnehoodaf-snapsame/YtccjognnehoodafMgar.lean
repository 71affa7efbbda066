/-
  PROVED HERE: laneref2.read, who and AtOnce answer as the plain functions of KindPlain say. Old memory stays as it was.
  Conditions: the lists are short.
  PROVED HERE: laneref2.who answers as the plain whoK says. Nothing turns.
  Conditions: the lists are short.
-/
import Derived.Test.YtccjognnehoodafMgan
import Derived.Test.YtccjognnehoodafMgaq
import Derived.Test.YtccjognnehoodafMgac
import Derived.Test.YtccjognnehoodafMgaj
import Derived.BigQuiet
import Derived.OwnWalk
namespace Go.Proofs.Ytccjognnehoodaf
open Go.RowKit

/-- A deal of a run as a value: what it saw and what it wrote lie in two slices. -/
abbrev dlV (t : Int) (r : Dl) (sv wv : Value) : Value := .agg #[.int .i64 t, .int .i64 r.began, .int .i64 r.ended, sv, wv]
structure DlIs (w : World) (r : Dl) (sv wv : Value) : Prop where
  seen : IsOps w sv r.seen
  wrote : IsInts w wv r.wrote
  short : r.seen.length ≤ 100 ∧ r.wrote.length ≤ 100
theorem DlIs.below {w w1 : World} {B : Nat} {r : Dl} {sv wv : Value} (h : DlIs w r sv wv) (hb : Below B w w1) (hB : w.heap.size ≤ B) : DlIs w1 r sv wv := ⟨h.seen.below hb hB, h.wrote.below hb hB, h.short⟩
theorem read_step {t : Int} {r : Dl} {item : Int} {k : Nat} (hk : k < r.seen.length) : ((r.seen.take (k + 1)).any fun x => x.2.1 == item && x.2.2 != t) = (((r.seen.take k).any fun x => x.2.1 == item && x.2.2 != t) || ((opAt r.seen k).2.1 == item && (opAt r.seen k).2.2 != t)) := by
  rw [List.take_succ_eq_append_getElem hk]
  have : r.seen[k] = opAt r.seen k := by simp [opAt, List.getD, List.getElem?_eq_getElem hk]
  simp [this]
end Go.Proofs.Ytccjognnehoodaf

namespace Go.Proofs.Ytccjognnehoodaf
open Go.RowKit

/-- A slice value that holds deals of a run. -/
def IsDeals (w : World) (v : Value) (ds : List Int) (of : Int → Dl) : Prop :=
  ∃ (ad : Option Addr) (b off cap : Nat), v = .slice ad ds.length cap ∧ (0 < ds.length → ad = some ⟨b, off, none⟩) ∧ (b < w.heap.size ∨ ds = []) ∧ ∀ i, i < ds.length → ∃ sv wv, DlIs w (of (ds.getD i 0)) sv wv ∧
    w.cell? ⟨b, off + i * 5, none⟩ = some (.int .i64 (ds.getD i 0)) ∧ w.cell? ⟨b, off + i * 5 + 1, none⟩ = some (.int .i64 (of (ds.getD i 0)).began) ∧ w.cell? ⟨b, off + i * 5 + 2, none⟩ = some (.int .i64 (of (ds.getD i 0)).ended) ∧ w.cell? ⟨b, off + i * 5 + 3, none⟩ = some sv ∧ w.cell? ⟨b, off + i * 5 + 4, none⟩ = some wv
theorem IsDeals.below {w w1 : World} {B : Nat} {v : Value} {ds : List Int} {of : Int → Dl} (h : IsDeals w v ds of) (hb : Below B w w1) (hB : w.heap.size ≤ B) : IsDeals w1 v ds of := by
  obtain ⟨ad, b, off, cap, hv, ha, hbB, hc⟩ := h
  have hs := hb.size
  refine ⟨ad, b, off, cap, hv, ha, ?_, fun i hi => ?_⟩
  · rcases hbB with h | h
    · exact .inl (by omega)
    · exact .inr h
  · obtain ⟨sv, wv, hd, c⟩ := hc i hi
    rcases hbB with h | h
    · refine ⟨sv, wv, hd.below hb hB, ?_⟩
      rw [hb.cell (p := ⟨b, off + i * 5, none⟩) (by simp; omega), hb.cell (p := ⟨b, off + i * 5 + 1, none⟩) (by simp; omega), hb.cell (p := ⟨b, off + i * 5 + 2, none⟩) (by simp; omega), hb.cell (p := ⟨b, off + i * 5 + 3, none⟩) (by simp; omega), hb.cell (p := ⟨b, off + i * 5 + 4, none⟩) (by simp; omega)]
      exact c
    · subst h; simp at hi
theorem whoK_snoc (ds : List Int) (of : Int → Dl) (t item time below : Int) : whoK (ds ++ [t]) of item time below = if (!inB (of t).wrote item || decide (time ≤ (of t).ended)) = true then whoK ds of item time below else if below = 0 then t else if t < below ∧ whoK ds of item time below < t then t else whoK ds of item time below := by
  unfold whoK
  rw [List.foldl_append]
  rfl
theorem retN {a b : Int} (h : a = b) : Ending.returned (.int .i64 a) = .returned (.int .i64 b) := by rw [h]
end Go.Proofs.Ytccjognnehoodaf
