/-
  PROVED HERE: laneref1.Table's method Ask, over a table in memory. Of the blocks that there were, only the table's own turn.
  Conditions: the lists are short.
  (Of these, what the claim wants: the rest was left out.)
  PROVED HERE: laneref1.Table's method For, over a table in memory: those with which a lock is at odds, rising. Old memory stays as it was.
  Conditions: the lists are short.
  (Of these, what the claim wants: the rest was left out.)
-/
import Derived.Test.YtmjjiehnjghndaaGreatMgbm
import Derived.Test.YtmjjiehnjghndaaGreatMgae
import Derived.Test.YtmjjiehnjghndaaGreatMgab
import Derived.Maps.AppendAt
namespace Go.Proofs.YtmjjiehnjghndaaGreat
open Go.RowKit

/-- A table as a world has it, whatever was made since. -/
theorem TabAt.later {w w1 : World} {B : Nat} {ty : TypeId} {T o : Nat} {cs : Array Value} {hv wv : Value} {s : Tab2} (h : TabAt w ty T o cs hv wv s) (hb : Below B w w1) (hB : w.heap.size ≤ B) : TabAt w1 ty T o cs hv wv s := h.below (hb.mono hB)
end Go.Proofs.YtmjjiehnjghndaaGreat

namespace Go.Proofs.YtmjjiehnjghndaaGreat
open Go.RowKit

theorem take_snoc {l : List Op3} {k : Nat} (hk : k < l.length) : l.take (k + 1) = l.take k ++ [opAt l k] := by
  rw [List.take_succ_eq_append_getElem hk]
  have : l[k] = opAt l k := by simp [opAt, List.getD, List.getElem?_eq_getElem hk]
  rw [this]
theorem ahead_stop {l : List Op3} {t : Int} : ∀ {k : Nat}, k < l.length → (∀ j, j < k → (opAt l j).1 ≠ t) → (opAt l k).1 = t → aheadL l t = l.take k := by
  induction l with
  | nil => intro k hk; simp at hk
  | cons y r ih =>
    intro k hk hno he
    cases k with
    | zero =>
      have : y.1 = t := by simpa [opAt, List.getD] using he
      simp [aheadL, this]
    | succ k =>
      have h0 : y.1 ≠ t := by simpa [opAt, List.getD] using hno 0 (by omega)
      have h1 := ih (k := k) (by simpa using hk) (fun j hj => by simpa [opAt, List.getD] using hno (j + 1) (by omega)) (by simpa [opAt, List.getD] using he)
      unfold aheadL at h1 ⊢
      rw [List.takeWhile_cons, if_pos (by simpa using h0), h1, List.take_succ_cons]
theorem ahead_all {l : List Op3} {t : Int} (h : ∀ j, j < l.length → (opAt l j).1 ≠ t) : aheadL l t = l := by
  induction l with
  | nil => rfl
  | cons y r ih =>
    have h0 : y.1 ≠ t := by simpa [opAt, List.getD] using h 0 (by simp)
    have h1 := ih fun j hj => by simpa [opAt, List.getD] using h (j + 1) (by simpa using hj)
    unfold aheadL at h1 ⊢
    rw [List.takeWhile_cons, if_pos (by simpa using h0), h1]
/-- A list of numbers in a row of one's own. -/
def OwnI (w : World) (base : Nat) (v : Value) (l : List Int) : Prop := w.ownsRow base 3 1 v l.length (l.map (Value.int .i64))
theorem OwnI.below {w w1 : World} {base B : Nat} {v : Value} {l : List Int} (h : OwnI w base v l) (hb : Below B w w1) (hB : w.heap.size ≤ B) : OwnI w1 base v l := own_below h hb hB
theorem OwnI.ints {w : World} {base : Nat} {v : Value} {l : List Int} (h : OwnI w base v l) : IsInts w v l := isInts_own h rfl
theorem OwnI.less {w : World} {base base2 : Nat} {v : Value} {l : List Int} (h : OwnI w base v l) (hb : base2 ≤ base) : OwnI w base2 v l := own_less h hb
theorem ownI_nil (w : World) (base : Nat) : OwnI w base (.slice none 0 0) [] := World.ownsRow_nil _ _ _ _
end Go.Proofs.YtmjjiehnjghndaaGreat
