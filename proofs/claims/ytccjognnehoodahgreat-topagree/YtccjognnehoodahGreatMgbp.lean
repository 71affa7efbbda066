/-
  PROVED HERE: laneref1.Table's method For, over a table in memory: those with which a lock is at odds, rising. Old memory stays as it was.
  Conditions: the lists are short.
  PROVED HERE: nothing yet of package locks: what its table is asked to answer (LocksC), for the laws that call it: over whatever lies in memory for a table.
  Conditions: none.
-/
import Derived.Test.YtccjognnehoodahGreatMgbo
import Derived.Test.YtccjognnehoodahGreatMgaw
import Derived.Test.YtccjognnehoodahGreatMgac
namespace Go.Proofs.YtccjognnehoodahGreat
open Go.RowKit

theorem take_snoc {l : List Op3} {k : Nat} (hk : k < l.length) : l.take (k + 1) = l.take k ++ [opAt l k] := by
  rw [List.take_succ_eq_append_getElem hk]
  have : l[k] = opAt l k := by simp [opAt, List.getD, List.getElem?_eq_getElem hk]
  rw [this]
theorem odds_hit {l : List Op3} {k : Nat} {x : Op3} (hk : k < l.length) (h : lodd (opAt l k) x = true) (o : List Int) : putsO o (oddsL (l.take (k + 1)) x) = putL (putsO o (oddsL (l.take k) x)) (opAt l k).1 := by
  rw [take_snoc hk]
  unfold oddsL putsO
  rw [List.filter_append, List.foldl_append]
  simp [h]
theorem odds_miss {l : List Op3} {k : Nat} {x : Op3} (hk : k < l.length) (h : lodd (opAt l k) x = false) (o : List Int) : putsO o (oddsL (l.take (k + 1)) x) = putsO o (oddsL (l.take k) x) := by
  rw [take_snoc hk]
  unfold oddsL putsO
  rw [List.filter_append, List.foldl_append]
  simp [h]
theorem putsO_len (l : List Op3) : ∀ o : List Int, (putsO o l).length ≤ o.length + l.length := by
  induction l with
  | nil => intro o; simp [putsO]
  | cons x r ih =>
    intro o
    have h := ih (putL o x.1)
    have h2 := putL_len o x.1
    unfold putsO at h ⊢
    rw [List.foldl_cons, List.length_cons]
    omega
theorem odds_len (l : List Op3) (k : Nat) (x : Op3) : (oddsL (l.take k) x).length ≤ k := by
  have h1 : (oddsL (l.take k) x).length ≤ (l.take k).length := List.length_filter_le _ _
  have h2 : (l.take k).length ≤ k := List.length_take_le _ _
  omega
theorem ahead_stop {l : List Op3} {t : Int} : ∀ {k : Nat}, k < l.length → (∀ j, j < k → (opAt l j).1 ≠ t) → (opAt l k).1 = t → aheadL l t = l.take k := by
  induction l with
  | nil => intro k hk; simp at hk
  | cons y r ih =>
    intro k hk hno he
    cases k with
    | zero =>
      have : y.1 = t := by simpa [opAt, List.getD] using he
      simp [aheadL, this]
    | succ k =>
      have h0 : y.1 ≠ t := by simpa [opAt, List.getD] using hno 0 (by omega)
      have h1 := ih (k := k) (by simpa using hk) (fun j hj => by simpa [opAt, List.getD] using hno (j + 1) (by omega)) (by simpa [opAt, List.getD] using he)
      unfold aheadL at h1 ⊢
      rw [List.takeWhile_cons, if_pos (by simpa using h0), h1, List.take_succ_cons]
theorem ahead_all {l : List Op3} {t : Int} (h : ∀ j, j < l.length → (opAt l j).1 ≠ t) : aheadL l t = l := by
  induction l with
  | nil => rfl
  | cons y r ih =>
    have h0 : y.1 ≠ t := by simpa [opAt, List.getD] using h 0 (by simp)
    have h1 := ih fun j hj => by simpa [opAt, List.getD] using h (j + 1) (by simpa using hj)
    unfold aheadL at h1 ⊢
    rw [List.takeWhile_cons, if_pos (by simpa using h0), h1]
/-- A list of numbers in a row of one's own. -/
def OwnI (w : World) (base : Nat) (v : Value) (l : List Int) : Prop := w.ownsRow base 3 1 v l.length (l.map (Value.int .i64))
theorem OwnI.below {w w1 : World} {base B : Nat} {v : Value} {l : List Int} (h : OwnI w base v l) (hb : Below B w w1) (hB : w.heap.size ≤ B) : OwnI w1 base v l := own_below h hb hB
theorem OwnI.ints {w : World} {base : Nat} {v : Value} {l : List Int} (h : OwnI w base v l) : IsInts w v l := isInts_own h rfl
theorem OwnI.less {w : World} {base base2 : Nat} {v : Value} {l : List Int} (h : OwnI w base v l) (hb : base2 ≤ base) : OwnI w base2 v l := own_less h hb
theorem ownI_nil (w : World) (base : Nat) : OwnI w base (.slice none 0 0) [] := World.ownsRow_nil _ _ _ _
end Go.Proofs.YtccjognnehoodahGreat

namespace Go.Proofs.YtccjognnehoodahGreat
open Go.RowKit

/-- What Free answers, and what it leaves, at any number. -/
def freeU (s : Tab2) (t : Int) : (List Op3 × Int) × Tab2 := if 1 ≤ t ∧ t ≤ 6 then (((freeT s t).2, 0), (freeT s t).1) else (([], 1), s)
/-- What For answers at any lock. -/
def forU (s : Tab2) (x : Op3) : List Int × Int := if isLock x = true then (forT s x, 0) else ([], 1)
abbrev lockV (x : Op3) : Value := .agg #[.int .i64 x.1, .int .i64 x.2.1, .int .i64 x.2.2]
/-- What package locks is asked to keep by one who only asks: PT w T F s says that at block T lies the table s, in the blocks of F. -/
structure LocksQ (PT : World → Nat → (Nat → Prop) → Tab2 → Prop) : Prop where
  stays : ∀ {w w' : World} {T : Nat} {F : Nat → Prop} {s : Tab2} (G : Nat → Prop), PT w T F s → Turns G w w' → (∀ k, F k → ¬ G k) → PT w' T F s
  lt : ∀ {w : World} {T : Nat} {F : Nat → Prop} {s : Tab2}, PT w T F s → ∀ k, F k → k < w.heap.size
  new : ∀ w : World, Calls Tryz.prog 79 #[] w fun e w' => ∃ T F, e = .returned (.pointer (some ⟨T, 0, none⟩)) ∧ PT w' T F ([], []) ∧ Below w.heap.size w w' ∧ ∀ k, F k → w.heap.size ≤ k
  ask : ∀ (w : World) (T : Nat) (F : Nat → Prop) (s : Tab2) (x : Op3), PT w T F s → s.1.length ≤ 400 → s.2.length ≤ 400 → Calls Tryz.prog 113 #[.pointer (some ⟨T, 0, none⟩), lockV x] w fun e w' => e = .returned (.tuple #[.bool (askT s x).1.1, errV (askT s x).1.2]) ∧ ∃ F', PT w' T F' (askT s x).2 ∧ Turns F w w' ∧ ∀ k, F' k → F k ∨ w.heap.size ≤ k
  whom : ∀ (w : World) (T : Nat) (F : Nat → Prop) (s : Tab2) (x : Op3), PT w T F s → s.1.length ≤ 400 → s.2.length ≤ 400 → Calls Tryz.prog 162 #[.pointer (some ⟨T, 0, none⟩), lockV x] w fun e w' => ∃ v', e = .returned (.tuple #[v', errV (forU s x).2]) ∧ IsInts w' v' (forU s x).1 ∧ Below w.heap.size w w'
theorem LocksQ.below {PT : World → Nat → (Nat → Prop) → Tab2 → Prop} (h : LocksQ PT) {w w' : World} {T : Nat} {F : Nat → Prop} {s : Tab2} (hp : PT w T F s) (hb : Below w.heap.size w w') : PT w' T F s := h.stays (fun _ => False) hp (Turns.of_below hb) fun _ _ hf => hf
end Go.Proofs.YtccjognnehoodahGreat
