/-
  PROVED HERE: laneref2.read, who and AtOnce answer as the plain functions of KindPlain say. Old memory stays as it was.
  Conditions: the lists are short.
-/
import Derived.Test.YtccjognnehoodafKindPlain
import Derived.Test.YtccjognnehoodafRefIn
import Derived.Test.YtccjognnehoodafMgac
import Derived.Test.YtccjognnehoodafRegion
import Derived.BigQuiet
import Derived.OwnWalk
namespace Go.Proofs.Ytccjognnehoodaf
open Go.RowKit

/-- A deal of a run as a value: what it saw and what it wrote lie in two slices. -/
abbrev dlV (t : Int) (r : Dl) (sv wv : Value) : Value := .agg #[.int .i64 t, .int .i64 r.began, .int .i64 r.ended, sv, wv]
structure DlIs (w : World) (r : Dl) (sv wv : Value) : Prop where
  seen : IsOps w sv r.seen
  wrote : IsInts w wv r.wrote
  short : r.seen.length ≤ 100 ∧ r.wrote.length ≤ 100
theorem DlIs.below {w w1 : World} {B : Nat} {r : Dl} {sv wv : Value} (h : DlIs w r sv wv) (hb : Below B w w1) (hB : w.heap.size ≤ B) : DlIs w1 r sv wv := ⟨h.seen.below hb hB, h.wrote.below hb hB, h.short⟩
theorem read_step {t : Int} {r : Dl} {item : Int} {k : Nat} (hk : k < r.seen.length) : ((r.seen.take (k + 1)).any fun x => x.2.1 == item && x.2.2 != t) = (((r.seen.take k).any fun x => x.2.1 == item && x.2.2 != t) || ((opAt r.seen k).2.1 == item && (opAt r.seen k).2.2 != t)) := by
  rw [List.take_succ_eq_append_getElem hk]
  have : r.seen[k] = opAt r.seen k := by simp [opAt, List.getD, List.getElem?_eq_getElem hk]
  simp [this]
end Go.Proofs.Ytccjognnehoodaf
