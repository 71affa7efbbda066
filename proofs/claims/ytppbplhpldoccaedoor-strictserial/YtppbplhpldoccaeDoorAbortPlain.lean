/-
  PROVED HERE: plain facts: how long the lists can be while deals ask; what aborting one makes of that.
  Conditions: none.
-/
import Derived.Test.YtppbplhpldoccaeDoorStrictPlain
namespace Go.Proofs.YtppbplhpldoccaeDoor

theorem Good.tabs {r : Runr} (h : Good r) (hp : pot r ≤ 47) : r.tab.1.length ≤ 100 ∧ r.tab.2.length ≤ 100 ∧ r.told.length ≤ 47 ∧ r.vict.length ≤ 6 := by
  have h1 := h.size
  have h2 := h.vict
  unfold pot at hp
  exact ⟨by omega, by omega, by omega, by omega⟩
theorem abort0_pot {r : Runr} {t : Int} (h1 : 1 ≤ t) (h6 : t ≤ 6) (ho : r.out t = false) : pot (abort0 r t) ≤ pot r := by
  have hc : (cnt6 fun d => !setF r.out t true d) + 1 = cnt6 fun d => !r.out d := by
    rw [← cnt_drop (f := fun d => !r.out d) h1 h6 (by simp [ho])]
    congr 2
    funext d
    unfold setF
    split <;> rfl
  have h2 : sum6 (setF r.behind t []) ≤ sum6 r.behind := sum_mono fun d => by
    unfold setF
    split
    · simp
    · exact Nat.le_refl _
  have h3 := cnt_false (f := r.waits) (d := t)
  unfold pot abort0
  dsimp only
  rw [List.length_append, List.length_singleton]
  omega
theorem abort0_sum (r : Runr) (t : Int) : sum6 (abort0 r t).behind ≤ sum6 r.behind := sum_mono fun d => by
  show (setF r.behind t [] d).length ≤ _
  unfold setF
  split
  · simp
  · exact Nat.le_refl _
end Go.Proofs.YtppbplhpldoccaeDoor
