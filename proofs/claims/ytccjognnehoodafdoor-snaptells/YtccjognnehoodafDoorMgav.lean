/-
  PROVED HERE: nothing yet of packages valid, snap, danger, versions: what a Run of theirs is asked to answer (RunsC), for the laws that call it, and what the document's own answer is asked (RefC, RefOutC); how long that can be.
  Conditions: none.
  PROVED HERE: lanesame.Ops says yes of two slices that hold the same list of ops; nothing turns but the count of draws.
  Conditions: none.
-/
import Derived.Test.YtccjognnehoodafDoorMgar
import Derived.Test.YtccjognnehoodafDoorMgat
import Derived.Test.YtccjognnehoodafDoorMgau
import Derived.Test.YtccjognnehoodafDoorMgae
import Derived.Test.YtccjognnehoodafDoorMgaf
import Derived.Deep.QuietTactic
import Derived.BigQuiet
import Derived.WalkSmall
namespace Go.Proofs.YtccjognnehoodafDoor
open Go.RowKit

/-- Who wrote last, as the program keeps it: item by item. -/
def lastF6 (of : Int → Dl) (ds : List Int) (i : Nat) : Int := lastK of ds ((i : Int) + 1)
def lastL (of : Int → Dl) (ds : List Int) : List Int := (List.range 6).map (lastF6 of ds)
def seenL (of : Int → Dl) (ds : List Int) : List Op3 := ds.flatMap fun t => (of t).seen
theorem seenL_snoc (of : Int → Dl) (ds : List Int) (t : Int) : seenL of (ds ++ [t]) = seenL of ds ++ (of t).seen := by unfold seenL; rw [List.flatMap_append]; simp
theorem lastL_len (of : Int → Dl) (ds : List Int) : (lastL of ds).length = 6 := by simp [lastL]
theorem seenL_len {of : Int → Dl} {m : Nat} (h : ∀ t, (of t).seen.length ≤ m) : ∀ ds : List Int, (seenL of ds).length ≤ ds.length * m := by
  intro ds
  induction ds with
  | nil => simp [seenL]
  | cons t r ih =>
    unfold seenL at ih ⊢
    rw [List.flatMap_cons, List.length_append, List.length_cons, Nat.succ_mul]
    have := h t
    omega
/-- In which order those that are done are told. -/
def ordN (byN : Bool) (done : List Int) : List Int := if byN = true then byNum done else done
/-- What a run comes to. -/
def outU (kind : Int) (okF : Kst → Int → Dl → Bool) (byN : Bool) (l : List Op3) : (List Int × List Op3 × List Int) × Int :=
  if (chk l).2 ≠ 0 then (([], [], []), (chk l).2) else ((ordN byN (runK kind okF l l.length).done, seenL (runK kind okF l l.length).of (ordN byN (runK kind okF l l.length).done), lastL (runK kind okF l l.length).of (ordN byN (runK kind okF l l.length).done)), 0)
theorem outU_bad {kind : Int} {okF : Kst → Int → Dl → Bool} {byN : Bool} {l : List Op3} (h : (chk l).2 ≠ 0) : outU kind okF byN l = (([], [], []), (chk l).2) := by unfold outU; rw [if_pos h]
theorem outU_ok {kind : Int} {okF : Kst → Int → Dl → Bool} {byN : Bool} {l : List Op3} (h : (chk l).2 = 0) : outU kind okF byN l = ((ordN byN (runK kind okF l l.length).done, seenL (runK kind okF l l.length).of (ordN byN (runK kind okF l l.length).done), lastL (runK kind okF l l.length).of (ordN byN (runK kind okF l l.length).done)), 0) := by unfold outU; rw [if_neg (by simpa using h)]
theorem byNum_len (done : List Int) : (byNum done).length ≤ 6 := by
  unfold byNum
  exact Nat.le_trans (List.length_filter_le _ _) (by simp)
theorem ordN_len {byN : Bool} {done : List Int} (h : done.length ≤ 6) : (ordN byN done).length ≤ 6 := by
  unfold ordN
  split
  · exact byNum_len done
  · exact h
theorem outU_len (kind : Int) (okF : Kst → Int → Dl → Bool) (byN : Bool) (l : List Op3) : (outU kind okF byN l).1.1.length ≤ 6 ∧ (outU kind okF byN l).1.2.1.length ≤ 240 ∧ (outU kind okF byN l).1.2.2.length ≤ 6 := by
  by_cases h : (chk l).2 = 0
  · rw [outU_ok h]
    have h1 := ordN_len (byN := byN) (kst_six kind okF h)
    have h2 := chk_len h
    have h3 := seenL_len (of := (runK kind okF l l.length).of) (m := 40) (fun t => by have := ((kst_len kind okF l l.length).1 t).1; omega) (ordN byN (runK kind okF l l.length).done)
    refine ⟨h1, ?_, by show (lastL _ _).length ≤ 6; rw [lastL_len]; exact Nat.le_refl _⟩
    show (seenL _ _).length ≤ 240
    omega
  · rw [outU_bad h]
    exact ⟨by simp, by simp, by simp⟩
/-- What a Run of a kind is asked to keep. -/
def RunsC (F : FuncId) (kind : Int) (okF : Kst → Int → Dl → Bool) (byN : Bool) : Prop := ∀ (l : List Op3) (v : Value) (w : World), IsOps w v l → Calls Tryd.prog F #[v] w fun e w' => ∃ a1 a2 a3, e = .returned (.tuple #[.agg #[a1, a2, a3], errV (outU kind okF byN l).2]) ∧
  IsInts w' a1 (outU kind okF byN l).1.1 ∧ IsOps w' a2 (outU kind okF byN l).1.2.1 ∧ IsInts w' a3 (outU kind okF byN l).1.2.2 ∧ Room a1 ∧ Below w.heap.size w w'
/-- What the document's own Run is asked. -/
def RefC (kind : Int) (okF : Kst → Int → Dl → Bool) : Prop := ∀ (l : List Op3) (v : Value) (w : World), IsOps w v l → (chk l).2 = 0 → Calls Tryd.prog 8 #[v, .int .i64 kind] w fun e w' => ∃ v', e = .returned v' ∧ IsDeals w' v' (runK kind okF l l.length).done (runK kind okF l l.length).of ∧ Below w.heap.size w w'
/-- What the document's own Outcome is asked. -/
def RefOutC (byN : Bool) : Prop := ∀ (ds : List Int) (of : Int → Dl) (v : Value) (w : World), IsDeals w v ds of → ds.Nodup → (∀ t ∈ ds, 1 ≤ t ∧ t ≤ 6) → (∀ t, (of t).seen.length ≤ 40 ∧ (of t).wrote.length ≤ 40) → (∀ t, ∀ x ∈ (of t).wrote, 1 ≤ x ∧ x ≤ 6) →
  Calls Tryd.prog 18 #[v, .bool byN] w fun e w' => ∃ a1 a2 a3, e = .returned (.agg #[a1, a2, a3]) ∧ IsInts w' a1 (ordN byN ds) ∧ IsOps w' a2 (seenL of (ordN byN ds)) ∧ IsInts w' a3 (lastL of (ordN byN ds)) ∧ Below w.heap.size w w'
end Go.Proofs.YtccjognnehoodafDoor

namespace Go.Proofs.YtccjognnehoodafDoor
open Go.RowKit

end Go.Proofs.YtccjognnehoodafDoor
