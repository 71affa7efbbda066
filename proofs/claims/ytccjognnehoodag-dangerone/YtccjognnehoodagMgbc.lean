/-
  PROVED HERE: laneref2.Anti answers the edges that the plain antiE tells, of any short list of deals of a run. Old memory stays as it was.
  Conditions: the lists are short, and no deal stands twice.
  PROVED HERE: lanesame.Edges says yes of two slices that hold the same list of edges; nothing turns but the count of draws.
  Conditions: none.
-/
import Derived.Test.YtccjognnehoodagMgbb
import Derived.Test.YtccjognnehoodagMgaz
import Derived.Deep.RegionHeld3
import Derived.Test.YtccjognnehoodagMgaj
import Derived.Deep.QuietTactic
import Derived.BigQuiet
import Derived.WalkSmall
namespace Go.Proofs.Ytccjognnehoodag
open Go.RowKit

theorem hid_a {p : Prop} (h : p) : Hid p := h

theorem addE_len2 (l : List Edge2) (x : Edge2) : (addE l x).length ≤ l.length + 1 := by
  induction l with
  | nil => simp [addE]
  | cons a r ih =>
    unfold addE
    split
    · simp; omega
    · split
      · simp
      · simp
theorem antiW_len (x y : Int) (a : Dl) : ∀ (wr : List Int) (out : List Edge2), (antiW x y a out wr).length ≤ out.length + wr.length := by
  intro wr
  induction wr with
  | nil => intro out; exact Nat.le_refl _
  | cons i r ih =>
    intro out
    have h1 := ih (if readK x a i = true then addE out (x, y) else out)
    have h2 : (if readK x a i = true then addE out (x, y) else out).length ≤ out.length + 1 := by
      split
      · exact addE_len2 _ _
      · omega
    show (antiW x y a (if readK x a i = true then addE out (x, y) else out) r).length ≤ _
    simp only [List.length_cons]
    omega
theorem antiY_len (of : Int → Dl) (x y : Int) (out : List Edge2) (h : (of y).wrote.length ≤ 40) : (antiY of x out y).length ≤ out.length + 40 := by
  unfold antiY
  split
  · omega
  · have := antiW_len x y (of x) (of y).wrote out
    omega
theorem antiYs_len (of : Int → Dl) (x : Int) (h : ∀ y, (of y).wrote.length ≤ 40) : ∀ (ds : List Int) (out : List Edge2), (ds.foldl (antiY of x) out).length ≤ out.length + ds.length * 40 := by
  intro ds
  induction ds with
  | nil => intro out; simp
  | cons y r ih =>
    intro out
    have h1 := ih (antiY of x out y)
    have h2 := antiY_len of x y out (h y)
    simp only [List.foldl_cons, List.length_cons]
    omega
theorem antiXs_len (of : Int → Dl) (es : List Int) (h : ∀ y, (of y).wrote.length ≤ 40) (hl : es.length ≤ 7) : ∀ (ds : List Int) (out : List Edge2), (ds.foldl (antiX of es) out).length ≤ out.length + ds.length * 280 := by
  intro ds
  induction ds with
  | nil => intro out; simp
  | cons x r ih =>
    intro out
    have h1 := ih (antiX of es out x)
    have h2 : (antiX of es out x).length ≤ out.length + es.length * 40 := antiYs_len of x h es out
    simp only [List.foldl_cons, List.length_cons]
    omega
theorem takeI_fold {α : Type} (f : α → Int → α) (a : α) {L : List Int} {k : Nat} (hk : k < L.length) : (L.take (k + 1)).foldl f a = f ((L.take k).foldl f a) (L.getD k 0) := by
  rw [List.take_succ_eq_append_getElem hk, List.foldl_append]
  simp [List.getD, List.getElem?_eq_getElem hk]
theorem nodup_getD {ds : List Int} (h : ds.Nodup) {i k : Nat} (hi : i < ds.length) (hk : k < ds.length) (e : ds.getD i 0 = ds.getD k 0) : i = k := by
  have h1 : ds[i] = ds[k] := by simpa [List.getD, hi, hk] using e
  rcases Nat.lt_trichotomy i k with h2 | h2 | h2
  · exact absurd h1 (List.pairwise_iff_getElem.1 h i k hi hk h2)
  · exact h2
  · exact absurd h1.symm (List.pairwise_iff_getElem.1 h k i hk hi h2)
/-- The cells of a deal of a run in a row of them, in whatever world has come since. -/
def DealAt (W : World) (b off i : Nat) (t : Int) (r : Dl) (sv wv : Value) : Prop :=
  W.cell? ⟨b, off + i * 5, none⟩ = some (.int .i64 t) ∧ W.cell? ⟨b, off + i * 5 + 1, none⟩ = some (.int .i64 r.began) ∧ W.cell? ⟨b, off + i * 5 + 2, none⟩ = some (.int .i64 r.ended) ∧ W.cell? ⟨b, off + i * 5 + 3, none⟩ = some sv ∧ W.cell? ⟨b, off + i * 5 + 4, none⟩ = some wv
end Go.Proofs.Ytccjognnehoodag

namespace Go.Proofs.Ytccjognnehoodag
open Go.RowKit

end Go.Proofs.Ytccjognnehoodag
