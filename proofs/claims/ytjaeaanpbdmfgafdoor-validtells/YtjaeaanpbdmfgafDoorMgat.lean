/-
  PROVED HERE: laneref1.End answers as the plain function endOf says of the first ops of a list; nothing turns.
  Conditions: none.
  PROVED HERE: laneref1.Done gives, of a right list, the ops of the deals that commit; laneref1.Of gives a deal's ops, of any list; old memory stays as it was.
  Conditions: none.
  PROVED HERE: nothing yet of packages valid, snap, danger, versions: what a Run of theirs is asked to answer (RunsC), for the laws that call it, and what the document's own answer is asked (RefC, RefOutC); how long that can be.
  Conditions: none.
  PROVED HERE: lanesame.Ops says yes of two slices that hold the same list of ops; nothing turns but the count of draws.
  Conditions: none.
-/
import Derived.Test.YtjaeaanpbdmfgafDoorCheck
import Derived.Test.YtjaeaanpbdmfgafDoorRefHist
import Derived.Test.YtjaeaanpbdmfgafDoorMgag
import Derived.Test.YtjaeaanpbdmfgafDoorMgao
import Derived.Test.YtjaeaanpbdmfgafDoorRefKind1
import Derived.Test.YtjaeaanpbdmfgafDoorMgaf
import Derived.Deep.QuietTactic
import Derived.BigQuiet
import Derived.WalkSmall
namespace Go.Proofs.YtjaeaanpbdmfgafDoor
open Go.RowKit

theorem ret_int {x y : Int} (h : x = y) : Ending.returned (.int .i64 x) = .returned (.int .i64 y) := by rw [h]
/-- The tail of a search: what is left behind k ops of which none is it. -/
theorem endOf_drop {l : List Op3} {k : Nat} {o : Op3} (hd : l.drop k = o :: l.drop (k + 1)) (t : Int) : endOf (l.drop k) t = if o.1 = t ∧ 3 ≤ o.2.1 then o.2.1 else endOf (l.drop (k + 1)) t := by
  rw [hd]; rfl

end Go.Proofs.YtjaeaanpbdmfgafDoor

namespace Go.Proofs.YtjaeaanpbdmfgafDoor
open Go.RowKit

theorem filter_keep {q : Op3 → Bool} {l : List Op3} {k : Nat} {o : Op3} (h : l.take (k + 1) = l.take k ++ [o]) (hq : q o = true) : (l.take (k + 1)).filter q = (l.take k).filter q ++ [o] := by
  rw [h, List.filter_append]; simp [hq]
theorem filter_drop {q : Op3 → Bool} {l : List Op3} {k : Nat} {o : Op3} (h : l.take (k + 1) = l.take k ++ [o]) (hq : q o = false) : (l.take (k + 1)).filter q = (l.take k).filter q := by
  rw [h, List.filter_append]; simp [hq]
theorem endOf_comm (l : List Op3) (t : Nat) (h1 : ∀ o ∈ l, isOpB o = true) (h2 : Calm l) : (endOf l t == 3) = commIn l t := by
  induction l with
  | nil => rfl
  | cons a r ih =>
    obtain ⟨k1, k2⟩ := List.pairwise_cons.1 h2
    have ha := isOp_ends (h1 a (List.mem_cons_self ..))
    have ih' := ih (fun o ho => h1 o (List.mem_cons_of_mem _ ho)) k2
    have e : endOf (a :: r) t = if a.1 = (t : Int) ∧ 3 ≤ a.2.1 then a.2.1 else endOf r t := rfl
    have e2 : commIn (a :: r) t = ((a.1 == (t : Int) && a.2.1 == 3) || commIn r t) := by simp [commIn]
    rw [e, e2]
    by_cases hc : a.1 = (t : Int) ∧ 3 ≤ a.2.1
    · rw [if_pos hc]
      have hn : commIn r t = false := by
        simp only [commIn, List.any_eq_false]
        intro o ho hq
        simp at hq
        exact k1 o ho ⟨by rw [hc.1, hq.1], by rw [ha]; simp [hc.2]⟩
      rw [hn]; simp [hc.1]
    · rw [if_neg hc, ih']
      have : (a.1 == (t : Int) && a.2.1 == 3) = false := by
        by_cases h3 : a.1 = (t : Int)
        · have : ¬ a.2.1 = 3 := fun h4 => hc ⟨h3, by omega⟩
          simp [this]
        · simp [h3]
      rw [this]; simp

/-- A slice value that is no longer than its capacity. -/
def Room (v : Value) : Prop := ∃ ad n c, v = .slice ad n c ∧ n ≤ c
theorem own_room {w : World} {base e s n : Nat} {v : Value} {xs : List Value} (h : w.ownsRow base e s v n xs) : Room v := by
  obtain ⟨_, ⟨hv, hd⟩ | ⟨g, cap, cur, hv, hb, hg, hn, _⟩⟩ := h
  · exact ⟨none, 0, 0, hv, Nat.le_refl _⟩
  · exact ⟨_, _, _, hv, hn⟩
end Go.Proofs.YtjaeaanpbdmfgafDoor

namespace Go.Proofs.YtjaeaanpbdmfgafDoor
open Go.RowKit

/-- Who wrote last, as the program keeps it: item by item. -/
def lastF6 (of : Int → Dl) (ds : List Int) (i : Nat) : Int := lastK of ds ((i : Int) + 1)
def lastL (of : Int → Dl) (ds : List Int) : List Int := (List.range 6).map (lastF6 of ds)
def seenL (of : Int → Dl) (ds : List Int) : List Op3 := ds.flatMap fun t => (of t).seen
theorem seenL_snoc (of : Int → Dl) (ds : List Int) (t : Int) : seenL of (ds ++ [t]) = seenL of ds ++ (of t).seen := by unfold seenL; rw [List.flatMap_append]; simp
theorem lastL_len (of : Int → Dl) (ds : List Int) : (lastL of ds).length = 6 := by simp [lastL]
theorem seenL_len {of : Int → Dl} {m : Nat} (h : ∀ t, (of t).seen.length ≤ m) : ∀ ds : List Int, (seenL of ds).length ≤ ds.length * m := by
  intro ds
  induction ds with
  | nil => simp [seenL]
  | cons t r ih =>
    unfold seenL at ih ⊢
    rw [List.flatMap_cons, List.length_append, List.length_cons, Nat.succ_mul]
    have := h t
    omega
/-- In which order those that are done are told. -/
def ordN (byN : Bool) (done : List Int) : List Int := if byN = true then byNum done else done
/-- What a run comes to. -/
def outU (kind : Int) (okF : Kst → Int → Dl → Bool) (byN : Bool) (l : List Op3) : (List Int × List Op3 × List Int) × Int :=
  if (chk l).2 ≠ 0 then (([], [], []), (chk l).2) else ((ordN byN (runK kind okF l l.length).done, seenL (runK kind okF l l.length).of (ordN byN (runK kind okF l l.length).done), lastL (runK kind okF l l.length).of (ordN byN (runK kind okF l l.length).done)), 0)
theorem outU_bad {kind : Int} {okF : Kst → Int → Dl → Bool} {byN : Bool} {l : List Op3} (h : (chk l).2 ≠ 0) : outU kind okF byN l = (([], [], []), (chk l).2) := by unfold outU; rw [if_pos h]
theorem outU_ok {kind : Int} {okF : Kst → Int → Dl → Bool} {byN : Bool} {l : List Op3} (h : (chk l).2 = 0) : outU kind okF byN l = ((ordN byN (runK kind okF l l.length).done, seenL (runK kind okF l l.length).of (ordN byN (runK kind okF l l.length).done), lastL (runK kind okF l l.length).of (ordN byN (runK kind okF l l.length).done)), 0) := by unfold outU; rw [if_neg (by simpa using h)]
theorem byNum_len (done : List Int) : (byNum done).length ≤ 6 := by
  unfold byNum
  exact Nat.le_trans (List.length_filter_le _ _) (by simp)
theorem ordN_len {byN : Bool} {done : List Int} (h : done.length ≤ 6) : (ordN byN done).length ≤ 6 := by
  unfold ordN
  split
  · exact byNum_len done
  · exact h
theorem outU_len (kind : Int) (okF : Kst → Int → Dl → Bool) (byN : Bool) (l : List Op3) : (outU kind okF byN l).1.1.length ≤ 6 ∧ (outU kind okF byN l).1.2.1.length ≤ 240 ∧ (outU kind okF byN l).1.2.2.length ≤ 6 := by
  by_cases h : (chk l).2 = 0
  · rw [outU_ok h]
    have h1 := ordN_len (byN := byN) (kst_six kind okF h)
    have h2 := chk_len h
    have h3 := seenL_len (of := (runK kind okF l l.length).of) (m := 40) (fun t => by have := ((kst_len kind okF l l.length).1 t).1; omega) (ordN byN (runK kind okF l l.length).done)
    refine ⟨h1, ?_, by show (lastL _ _).length ≤ 6; rw [lastL_len]; exact Nat.le_refl _⟩
    show (seenL _ _).length ≤ 240
    omega
  · rw [outU_bad h]
    exact ⟨by simp, by simp, by simp⟩
/-- What a Run of a kind is asked to keep. -/
def RunsC (F : FuncId) (kind : Int) (okF : Kst → Int → Dl → Bool) (byN : Bool) : Prop := ∀ (l : List Op3) (v : Value) (w : World), IsOps w v l → Calls Tryd.prog F #[v] w fun e w' => ∃ a1 a2 a3, e = .returned (.tuple #[.agg #[a1, a2, a3], errV (outU kind okF byN l).2]) ∧
  IsInts w' a1 (outU kind okF byN l).1.1 ∧ IsOps w' a2 (outU kind okF byN l).1.2.1 ∧ IsInts w' a3 (outU kind okF byN l).1.2.2 ∧ Room a1 ∧ Below w.heap.size w w'
/-- What the document's own Run is asked. -/
def RefC (kind : Int) (okF : Kst → Int → Dl → Bool) : Prop := ∀ (l : List Op3) (v : Value) (w : World), IsOps w v l → (chk l).2 = 0 → Calls Tryd.prog 11 #[v, .int .i64 kind] w fun e w' => ∃ v', e = .returned v' ∧ IsDeals w' v' (runK kind okF l l.length).done (runK kind okF l l.length).of ∧ Below w.heap.size w w'
/-- What the document's own Outcome is asked. -/
def RefOutC (byN : Bool) : Prop := ∀ (ds : List Int) (of : Int → Dl) (v : Value) (w : World), IsDeals w v ds of → ds.Nodup → (∀ t ∈ ds, 1 ≤ t ∧ t ≤ 6) → (∀ t, (of t).seen.length ≤ 40 ∧ (of t).wrote.length ≤ 40) → (∀ t, ∀ x ∈ (of t).wrote, 1 ≤ x ∧ x ≤ 6) →
  Calls Tryd.prog 10 #[v, .bool byN] w fun e w' => ∃ a1 a2 a3, e = .returned (.agg #[a1, a2, a3]) ∧ IsInts w' a1 (ordN byN ds) ∧ IsOps w' a2 (seenL of (ordN byN ds)) ∧ IsInts w' a3 (lastL of (ordN byN ds)) ∧ Below w.heap.size w w'
end Go.Proofs.YtjaeaanpbdmfgafDoor

namespace Go.Proofs.YtjaeaanpbdmfgafDoor
open Go.RowKit

end Go.Proofs.YtjaeaanpbdmfgafDoor
