/-
  PROVED HERE: laneref1.Done gives, of a right list, the ops of the deals that commit; laneref1.Of gives a deal's ops, of any list; old memory stays as it was.
  Conditions: none.
-/
import Derived.Test.YtjcaekhkeobhpahDoorRefHist
import Derived.Test.YtjcaekhkeobhpahDoorEnd
import Derived.Test.YtjcaekhkeobhpahDoorBack
namespace Go.Proofs.YtjcaekhkeobhpahDoor
open Go.RowKit

theorem filter_keep {q : Op3 → Bool} {l : List Op3} {k : Nat} {o : Op3} (h : l.take (k + 1) = l.take k ++ [o]) (hq : q o = true) : (l.take (k + 1)).filter q = (l.take k).filter q ++ [o] := by
  rw [h, List.filter_append]; simp [hq]
theorem filter_drop {q : Op3 → Bool} {l : List Op3} {k : Nat} {o : Op3} (h : l.take (k + 1) = l.take k ++ [o]) (hq : q o = false) : (l.take (k + 1)).filter q = (l.take k).filter q := by
  rw [h, List.filter_append]; simp [hq]
theorem end_v (l : List Op3) (v : Value) (t : Int) (w : World) (hI : IsOps w v l) (hlen : l.length ≤ 140737488351232) :
    Calls Tryd.prog 15 #[v, .int .i64 t, .int .i64 l.length] w fun e w' => e = .returned (.int .i64 (endOf l t)) ∧ w' = w := by
  obtain ⟨ad, b, off, cap, rfl, ha, _, hbB, hops⟩ := hI
  exact end_any l ad b off cap t w hlen ha hops
theorem endOf_comm (l : List Op3) (t : Nat) (h1 : ∀ o ∈ l, isOpB o = true) (h2 : Calm l) : (endOf l t == 3) = commIn l t := by
  induction l with
  | nil => rfl
  | cons a r ih =>
    obtain ⟨k1, k2⟩ := List.pairwise_cons.1 h2
    have ha := isOp_ends (h1 a (List.mem_cons_self ..))
    have ih' := ih (fun o ho => h1 o (List.mem_cons_of_mem _ ho)) k2
    have e : endOf (a :: r) t = if a.1 = (t : Int) ∧ 3 ≤ a.2.1 then a.2.1 else endOf r t := rfl
    have e2 : commIn (a :: r) t = ((a.1 == (t : Int) && a.2.1 == 3) || commIn r t) := by simp [commIn]
    rw [e, e2]
    by_cases hc : a.1 = (t : Int) ∧ 3 ≤ a.2.1
    · rw [if_pos hc]
      have hn : commIn r t = false := by
        simp only [commIn, List.any_eq_false]
        intro o ho hq
        simp at hq
        exact k1 o ho ⟨by rw [hc.1, hq.1], by rw [ha]; simp [hc.2]⟩
      rw [hn]; simp [hc.1]
    · rw [if_neg hc, ih']
      have : (a.1 == (t : Int) && a.2.1 == 3) = false := by
        by_cases h3 : a.1 = (t : Int)
        · have : ¬ a.2.1 = 3 := fun h4 => hc ⟨h3, by omega⟩
          simp [this]
        · simp [h3]
      rw [this]; simp

/-- A slice value that is no longer than its capacity. -/
def Room (v : Value) : Prop := ∃ ad n c, v = .slice ad n c ∧ n ≤ c
theorem own_room {w : World} {base e s n : Nat} {v : Value} {xs : List Value} (h : w.ownsRow base e s v n xs) : Room v := by
  obtain ⟨_, ⟨hv, hd⟩ | ⟨g, cap, cur, hv, hb, hg, hn, _⟩⟩ := h
  · exact ⟨none, 0, 0, hv, Nat.le_refl _⟩
  · exact ⟨_, _, _, hv, hn⟩
end Go.Proofs.YtjcaekhkeobhpahDoor
