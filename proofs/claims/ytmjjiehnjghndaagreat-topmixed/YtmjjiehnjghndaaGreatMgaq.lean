/-
  PROVED HERE: plain facts, with no word of the program: what stands behind a deal that has come to be held is done op by op, whatever number of calls may still come.
  Conditions: none.
  PROVED HERE: plain facts, with no word of the program: what one op more that is told, or for which a deal waits, makes of how things stand; the younger ones for whom a deal waits, one by one.
  Conditions: none.
-/
import Derived.Test.YtmjjiehnjghndaaGreatMgap
namespace Go.Proofs.YtmjjiehnjghndaaGreat

theorem drain_stop {doF : Runr → Op3 → Runr} {d : Int} {r : Runr} (h : r.waits d = true ∨ r.behind d = []) (m : Nat) : drainN doF d m r = r := by
  cases m with
  | zero => rfl
  | succ m =>
    unfold drainN
    split
    · rfl
    · rename_i hw
      rcases h with h | h
      · exact absurd h hw
      · rw [h]
/-- One that stands behind is taken. -/
def popR (r : Runr) (d : Int) (q : List Op3) : Runr := { r with behind := setF r.behind d q }
theorem pop_ok {r : Runr} {d : Int} {o : Op3} {q : List Op3} (h : Good r) (h1 : 1 ≤ d) (h6 : d ≤ 6) (hb : r.behind d = o :: q) : Good (popR r d q) ∧ pot (popR r d q) + 1 = pot r ∧ sum6 (popR r d q).behind + 1 = sum6 r.behind ∧ o.1 = d ∧ isOpB o = true ∧ r.out d = false := by
  have ho := h.ops d o (by rw [hb]; exact List.mem_cons_self)
  have hout : r.out d = false := by
    cases he : r.out d with
    | false => rfl
    | true => rw [h.gone d he] at hb; cases hb
  have hsum := sum_pop h1 h6 hb
  refine ⟨⟨h.t1, h.t2, fun e he => ?_, fun e p hp => ?_, h.size, h.vict, h.wait⟩, ?_, hsum, ho.1, ho.2, hout⟩
  · show setF r.behind d q e = []
    have he' : r.out e = true := he
    unfold setF
    split
    · rename_i hed
      subst hed
      rw [hout] at he'
      cases he'
    · exact h.gone e he'
  · have hp' : p ∈ setF r.behind d q e := hp
    unfold setF at hp'
    split at hp'
    · rename_i hed
      subst hed
      exact h.ops e p (by rw [hb]; exact List.mem_cons_of_mem _ hp')
    · exact h.ops e p hp'
  · unfold pot popR
    dsimp only
    omega
theorem drain_any {doF : Runr → Op3 → Runr} (hF : DoOk doF) {d : Int} (h1 : 1 ≤ d) (h6 : d ≤ 6) : ∀ (m k : Nat) (r : Runr), Good r → (r.behind d).length ≤ m → (r.behind d).length ≤ k → drainN doF d m r = drainN doF d k r := by
  intro m
  induction m with
  | zero =>
    intro k r _ hm _
    have : r.behind d = [] := List.length_eq_zero_iff.1 (by omega)
    rw [drain_stop (.inr this), drain_stop (.inr this)]
  | succ m ih =>
    intro k r hg hm hk
    cases k with
    | zero =>
      have : r.behind d = [] := List.length_eq_zero_iff.1 (by omega)
      rw [drain_stop (.inr this), drain_stop (.inr this)]
    | succ k =>
      unfold drainN
      split
      · rfl
      · rename_i hw
        split
        · rfl
        · rename_i o q hb
          obtain ⟨g1, g2, g3, g4, g5, g6⟩ := pop_ok hg h1 h6 hb
          have hs := hF (popR r d q) o g1 (by rw [g4]; exact g6) (by rw [g4]; show r.waits d = false; simpa using hw) g5
          have hl := hs.less d
          have hq : ((popR r d q).behind d).length = q.length := by
            show (setF r.behind d q d).length = _
            rw [setF_same]
          rw [hb] at hm hk
          simp only [List.length_cons] at hm hk
          exact ih k _ hs.good (by show ((doF (popR r d q) o).behind d).length ≤ m; omega) (by show ((doF (popR r d q) o).behind d).length ≤ k; omega)
theorem drain_next {doF : Runr → Op3 → Runr} (hF : DoOk doF) {d : Int} (h1 : 1 ≤ d) (h6 : d ≤ 6) {r : Runr} {o : Op3} {q : List Op3} (hg : Good r) (hw : r.waits d = false) (hb : r.behind d = o :: q) : drainN doF d (r.behind d).length r = drainN doF d ((doF (popR r d q) o).behind d).length (doF (popR r d q) o) := by
  obtain ⟨g1, g2, g3, g4, g5, g6⟩ := pop_ok hg h1 h6 hb
  have hs := hF (popR r d q) o g1 (by rw [g4]; exact g6) (by rw [g4]; exact hw) g5
  have hl := hs.less d
  have hq : ((popR r d q).behind d).length = q.length := by
    show (setF r.behind d q d).length = _
    rw [setF_same]
  have e1 : drainN doF d (q.length + 1) r = drainN doF d q.length (doF (popR r d q) o) := by
    rw [drainN, if_neg (by rw [hw]; decide)]
    split
    · rename_i hb2; rw [hb] at hb2; cases hb2
    · rename_i o2 q2 hb2
      rw [hb] at hb2
      injection hb2 with e2 e3
      subst e2
      subst e3
      rfl
  rw [hb, List.length_cons, e1]
  exact drain_any hF h1 h6 _ _ _ hs.good (by omega) (Nat.le_refl _)
/-- One that waited is told. -/
def gotR (r : Runr) (d : Int) : Runr := { r with waits := setF r.waits d false, told := r.told ++ [r.op d] }
theorem got_ok {r : Runr} {d : Int} (h : Good r) (hw : r.waits d = true) : Good (gotR r d) ∧ pot (gotR r d) ≤ pot r := by
  obtain ⟨h1, h6⟩ := h.wait _ hw
  have hc := cnt_drop h1 h6 hw
  refine ⟨⟨h.t1, h.t2, h.gone, h.ops, ?_, h.vict, fun e he => ?_⟩, ?_⟩
  · have := h.size
    show _ ≤ (r.told ++ [r.op d]).length + cnt6 (setF r.waits d false)
    rw [List.length_append, List.length_singleton]
    show r.tab.1.length + r.tab.2.length ≤ _
    omega
  · have he' : setF r.waits d false e = true := he
    unfold setF at he'
    split at he'
    · cases he'
    · exact h.wait e he'
  · unfold pot gotR
    dsimp only
    rw [List.length_append, List.length_singleton]
    omega
theorem grantR_yes {doF : Runr → Op3 → Runr} {r : Runr} {x : Op3} (h : r.waits x.1 = true) : grantR doF r x = drainN doF x.1 ((gotR r x.1).behind x.1).length (gotR r x.1) := by
  unfold grantR
  rw [if_pos h]
  rfl
theorem grantR_no {doF : Runr → Op3 → Runr} {r : Runr} {x : Op3} (h : r.waits x.1 = false) : grantR doF r x = r := by
  unfold grantR
  rw [if_neg (by rw [h]; decide)]
end Go.Proofs.YtmjjiehnjghndaaGreat

namespace Go.Proofs.YtmjjiehnjghndaaGreat

theorem tell_ok {r : Runr} (h : Good r) (o : Op3) : Good { r with told := r.told ++ [o] } ∧ pot { r with told := r.told ++ [o] } = pot r + 1 := by
  refine ⟨⟨h.t1, h.t2, h.gone, h.ops, ?_, h.vict, h.wait⟩, ?_⟩
  · have := h.size
    dsimp only
    rw [List.length_append]
    omega
  · unfold pot
    dsimp only
    rw [List.length_append, List.length_singleton]
    omega
theorem wait_ok {r : Runr} {o : Op3} (h : Good r) (ho : r.out o.1 = false) (hnw : r.waits o.1 = false) (h1 : 1 ≤ o.1) (h6 : o.1 ≤ 6) : Good (wait0 r o) ∧ pot (wait0 r o) = pot r + 1 := by
  have hsum := ask_sum r.tab (o.1, o.2.2, o.2.1)
  have hm1 : ∀ x ∈ (askT r.tab (o.1, o.2.2, o.2.1)).2.1, r.out x.1 = false ∧ 1 ≤ x.1 ∧ x.1 ≤ 6 := fun x hx => by
    rcases mem_ask.1 hx with h2 | h2
    · exact h.t1 x h2
    · rw [h2]; exact ⟨ho, h1, h6⟩
  have hm2 : ∀ x ∈ (askT r.tab (o.1, o.2.2, o.2.1)).2.2, r.out x.1 = false ∧ 1 ≤ x.1 ∧ x.1 ≤ 6 := fun x hx => by
    rcases mem_ask.2 hx with h2 | h2
    · exact h.t2 x h2
    · rw [h2]; exact ⟨ho, h1, h6⟩
  have hcw : cnt6 (setF r.waits o.1 true) = cnt6 r.waits + 1 := by
    have h2 := cnt_drop (f := setF r.waits o.1 true) h1 h6 (setF_same _ _ _)
    have h3 : setF (setF r.waits o.1 true) o.1 false = r.waits := by
      funext d
      unfold setF
      split
      · rename_i e; rw [e, hnw]
      · rfl
    rw [h3] at h2
    omega
  refine ⟨⟨hm1, hm2, h.gone, h.ops, ?_, h.vict, fun d hd => ?_⟩, ?_⟩
  · have h2 := h.size
    unfold wait0
    dsimp only at hsum ⊢
    omega
  · have hd' : setF r.waits o.1 true d = true := hd
    unfold setF at hd'
    split at hd'
    · rename_i e; rw [e]; exact ⟨h1, h6⟩
    · exact h.wait d hd'
  · unfold pot wait0
    dsimp only
    omega
theorem find_split {l : List Int} {p : Int → Bool} : ∀ {j : Nat}, j ≤ l.length → (∀ i, i < j → p (l.getD i 0) = false) → l.find? p = (l.drop j).find? p := by
  induction l with
  | nil => intro j hj _; simp
  | cons x q ih =>
    intro j hj hno
    cases j with
    | zero => simp
    | succ j =>
      have h0 := hno 0 (by omega)
      simp only [List.getD, List.getElem?_cons_zero, Option.getD_some] at h0
      rw [List.find?_cons_of_neg (by simpa using h0), List.drop_succ_cons]
      exact ih (by simpa using hj) fun i hi => by simpa [List.getD] using hno (i + 1) (by omega)
theorem young_none {s : Tab2} {t : Int} (h : ∀ i, i < (whomR s t).length → ¬ t < (whomR s t).getD i 0) : youngR s t = none := by
  unfold youngR
  rw [find_split (Nat.le_refl _) fun i hi => by simpa using h i hi]
  simp
theorem young_hit {s : Tab2} {t v : Int} {j : Nat} (hj : j < (whomR s t).length) (hv : (whomR s t).getD j 0 = v) (h : ∀ i, i < j → ¬ t < (whomR s t).getD i 0) (hy : t < v) : youngR s t = some v := by
  unfold youngR
  rw [find_split (Nat.le_of_lt hj) fun i hi => by simpa using h i hi]
  rw [List.drop_eq_getElem_cons hj]
  have e : (whomR s t)[j] = v := by rw [← hv]; simp [List.getD, List.getElem?_eq_getElem hj]
  rw [e, List.find?_cons_of_pos (by simpa using hy)]
theorem wound_none {doF : Runr → Op3 → Runr} {t : Int} {m : Nat} {r : Runr} (h : youngR r.tab t = none) : woundN doF t m r = r := by
  cases m with
  | zero => rfl
  | succ m => unfold woundN; rw [h]
theorem wound_some {doF : Runr → Op3 → Runr} {t v : Int} {m : Nat} {r : Runr} (h : youngR r.tab t = some v) : woundN doF t (m + 1) r = woundN doF t m (abortR doF r v) := by
  rw [woundN, h]
theorem live_less {r r' : Runr} {v : Int} (h1 : 1 ≤ v) (h6 : v ≤ 6) (ho : r.out v = false) (ho' : r'.out v = true) (hm : ∀ d, r.out d = true → r'.out d = true) : (cnt6 fun d => !r'.out d) + 1 ≤ cnt6 fun d => !r.out d := by
  have h2 : (cnt6 fun d => !r'.out d) ≤ cnt6 (setF (fun d => !r.out d) v false) := cnt_mono fun d hd => by
    unfold setF
    split
    · rename_i e; rw [e, ho'] at hd; cases hd
    · cases hh : r.out d with
      | false => show (!r.out d) = true; rw [hh]; rfl
      | true => rw [hm d hh] at hd; cases hd
  have h3 := cnt_drop (f := fun d => !r.out d) h1 h6 (by simp [ho])
  omega
end Go.Proofs.YtmjjiehnjghndaaGreat
