/-
  PROVED HERE: plain facts, with no word of the program: what one op more that is told, or for which a deal waits, makes of how things stand; the younger ones for whom a deal waits, one by one.
  Conditions: none.
-/
import Derived.Test.YtjaeaanpbdmfgaeGreatDoorMgax
namespace Go.Proofs.YtjaeaanpbdmfgaeGreatDoor

theorem tell_ok {r : Runr} (h : Good r) (o : Op3) : Good { r with told := r.told ++ [o] } ∧ pot { r with told := r.told ++ [o] } = pot r + 1 := by
  refine ⟨⟨h.t1, h.t2, h.gone, h.ops, ?_, h.vict, h.wait⟩, ?_⟩
  · have := h.size
    dsimp only
    rw [List.length_append]
    omega
  · unfold pot
    dsimp only
    rw [List.length_append, List.length_singleton]
    omega
theorem wait_ok {r : Runr} {o : Op3} (h : Good r) (ho : r.out o.1 = false) (hnw : r.waits o.1 = false) (h1 : 1 ≤ o.1) (h6 : o.1 ≤ 6) : Good (wait0 r o) ∧ pot (wait0 r o) = pot r + 1 := by
  have hsum := ask_sum r.tab (o.1, o.2.2, o.2.1)
  have hm1 : ∀ x ∈ (askT r.tab (o.1, o.2.2, o.2.1)).2.1, r.out x.1 = false ∧ 1 ≤ x.1 ∧ x.1 ≤ 6 := fun x hx => by
    rcases mem_ask.1 hx with h2 | h2
    · exact h.t1 x h2
    · rw [h2]; exact ⟨ho, h1, h6⟩
  have hm2 : ∀ x ∈ (askT r.tab (o.1, o.2.2, o.2.1)).2.2, r.out x.1 = false ∧ 1 ≤ x.1 ∧ x.1 ≤ 6 := fun x hx => by
    rcases mem_ask.2 hx with h2 | h2
    · exact h.t2 x h2
    · rw [h2]; exact ⟨ho, h1, h6⟩
  have hcw : cnt6 (setF r.waits o.1 true) = cnt6 r.waits + 1 := by
    have h2 := cnt_drop (f := setF r.waits o.1 true) h1 h6 (setF_same _ _ _)
    have h3 : setF (setF r.waits o.1 true) o.1 false = r.waits := by
      funext d
      unfold setF
      split
      · rename_i e; rw [e, hnw]
      · rfl
    rw [h3] at h2
    omega
  refine ⟨⟨hm1, hm2, h.gone, h.ops, ?_, h.vict, fun d hd => ?_⟩, ?_⟩
  · have h2 := h.size
    unfold wait0
    dsimp only at hsum ⊢
    omega
  · have hd' : setF r.waits o.1 true d = true := hd
    unfold setF at hd'
    split at hd'
    · rename_i e; rw [e]; exact ⟨h1, h6⟩
    · exact h.wait d hd'
  · unfold pot wait0
    dsimp only
    omega
theorem find_split {l : List Int} {p : Int → Bool} : ∀ {j : Nat}, j ≤ l.length → (∀ i, i < j → p (l.getD i 0) = false) → l.find? p = (l.drop j).find? p := by
  induction l with
  | nil => intro j hj _; simp
  | cons x q ih =>
    intro j hj hno
    cases j with
    | zero => simp
    | succ j =>
      have h0 := hno 0 (by omega)
      simp only [List.getD, List.getElem?_cons_zero, Option.getD_some] at h0
      rw [List.find?_cons_of_neg (by simpa using h0), List.drop_succ_cons]
      exact ih (by simpa using hj) fun i hi => by simpa [List.getD] using hno (i + 1) (by omega)
theorem young_none {s : Tab2} {t : Int} (h : ∀ i, i < (whomR s t).length → ¬ t < (whomR s t).getD i 0) : youngR s t = none := by
  unfold youngR
  rw [find_split (Nat.le_refl _) fun i hi => by simpa using h i hi]
  simp
theorem young_hit {s : Tab2} {t v : Int} {j : Nat} (hj : j < (whomR s t).length) (hv : (whomR s t).getD j 0 = v) (h : ∀ i, i < j → ¬ t < (whomR s t).getD i 0) (hy : t < v) : youngR s t = some v := by
  unfold youngR
  rw [find_split (Nat.le_of_lt hj) fun i hi => by simpa using h i hi]
  rw [List.drop_eq_getElem_cons hj]
  have e : (whomR s t)[j] = v := by rw [← hv]; simp [List.getD, List.getElem?_eq_getElem hj]
  rw [e, List.find?_cons_of_pos (by simpa using hy)]
theorem wound_none {doF : Runr → Op3 → Runr} {t : Int} {m : Nat} {r : Runr} (h : youngR r.tab t = none) : woundN doF t m r = r := by
  cases m with
  | zero => rfl
  | succ m => unfold woundN; rw [h]
theorem wound_some {doF : Runr → Op3 → Runr} {t v : Int} {m : Nat} {r : Runr} (h : youngR r.tab t = some v) : woundN doF t (m + 1) r = woundN doF t m (abortR doF r v) := by
  rw [woundN, h]
theorem live_less {r r' : Runr} {v : Int} (h1 : 1 ≤ v) (h6 : v ≤ 6) (ho : r.out v = false) (ho' : r'.out v = true) (hm : ∀ d, r.out d = true → r'.out d = true) : (cnt6 fun d => !r'.out d) + 1 ≤ cnt6 fun d => !r.out d := by
  have h2 : (cnt6 fun d => !r'.out d) ≤ cnt6 (setF (fun d => !r.out d) v false) := cnt_mono fun d hd => by
    unfold setF
    split
    · rename_i e; rw [e, ho'] at hd; cases hd
    · cases hh : r.out d with
      | false => show (!r.out d) = true; rw [hh]; rfl
      | true => rw [hm d hh] at hd; cases hd
  have h3 := cnt_drop (f := fun d => !r.out d) h1 h6 (by simp [ho])
  omega
end Go.Proofs.YtjaeaanpbdmfgaeGreatDoor
