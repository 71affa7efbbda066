/-
  PROVED HERE: plain facts, with no word of the program: of what is done there are as many pieces as deals just if each piece ends with a commit.
  Conditions: none.
-/
import Derived.Test.YtjcaekhkeobhpahDoorSerPlain
import Derived.Test.YtjcaekhkeobhpahDoorOddPlain
namespace Go.Proofs.YtjcaekhkeobhpahDoor

/-- An op of another deal than the one ahead of it, which is no commit. -/
def badAt (d : List Op3) (i : Nat) : Bool := (opAt d i).1 != (opAt d (i - 1)).1 && (opAt d (i - 1)).2.1 != 3
def badTo (d : List Op3) : Nat → Nat
  | 0 => 0
  | n + 1 => badTo d n + if n ≠ 0 ∧ badAt d n = true then 1 else 0
def runsTo (d : List Op3) : Nat → Nat
  | 0 => 0
  | n + 1 => runsTo d n + if n = 0 ∨ (opAt d n).1 ≠ (opAt d (n - 1)).1 then 1 else 0
def comTo (d : List Op3) (n : Nat) : Nat := ((d.take n).filter fun o => o.2.1 == 3).length
/-- Is each deal in one piece? -/
def serB (d : List Op3) : Bool := decide (badTo d d.length = 0)
theorem badTo_one (d : List Op3) : badTo d 1 = 0 := by simp [badTo]
theorem badTo_le (d : List Op3) {n m : Nat} (h : n ≤ m) : badTo d n ≤ badTo d m := by
  induction m with
  | zero => rw [show n = 0 by omega]; exact Nat.le_refl _
  | succ m ih =>
    rcases Nat.lt_or_ge m n with h2 | h2
    · rw [show n = m + 1 by omega]; exact Nat.le_refl _
    · have := ih h2
      simp only [badTo]
      omega
theorem badTo_no {d : List Op3} {n : Nat} (h : badAt d n = false) : badTo d (n + 1) = badTo d n := by simp [badTo, h]
theorem serB_no {d : List Op3} {n : Nat} (hn : n ≠ 0) (hl : n < d.length) (h : badAt d n = true) : serB d = false := by
  have h1 := badTo_le d (show n + 1 ≤ d.length by omega)
  have h2 : badTo d (n + 1) = badTo d n + 1 := by simp [badTo, h, hn]
  unfold serB
  exact decide_eq_false (by omega)
theorem runsTo_le (d : List Op3) (n : Nat) : runsTo d n ≤ n := by
  induction n with
  | zero => exact Nat.le_refl _
  | succ n ih =>
    simp only [runsTo]
    split <;> omega
theorem opAt_get {d : List Op3} {i : Nat} (h : i < d.length) : opAt d i = d[i] := by
  unfold opAt
  simp [List.getD, List.getElem?_eq_getElem h]
theorem calm_at {d : List Op3} (hc : Calm d) {i j : Nat} (hij : i < j) (hj : j < d.length) (h3 : (opAt d i).2.1 = 3) : (opAt d i).1 ≠ (opAt d j).1 := by
  intro e
  have := List.pairwise_iff_getElem.1 hc i j (by omega) hj hij
  rw [opAt_get (by omega)] at e h3
  rw [opAt_get hj] at e
  exact this ⟨e, by rw [h3]; rfl⟩
theorem comTo_succ {d : List Op3} {n : Nat} (h : n < d.length) : comTo d (n + 1) = comTo d n + if (opAt d n).2.1 = 3 then 1 else 0 := by
  unfold comTo
  rw [List.take_succ_eq_append_getElem h, List.filter_append, List.length_append, opAt_get h]
  by_cases h3 : d[n].2.1 = 3
  · simp [h3]
  · simp [h3]
theorem runs_count {d : List Op3} (hc : Calm d) : ∀ n, n + 1 ≤ d.length → runsTo d (n + 1) = comTo d n + badTo d (n + 1) + 1 := by
  intro n
  induction n with
  | zero => intro _; simp [runsTo, badTo, comTo]
  | succ n ih =>
    intro hn
    have h1 := ih (by omega)
    have e1 : runsTo d (n + 1 + 1) = runsTo d (n + 1) + if n + 1 = 0 ∨ (opAt d (n + 1)).1 ≠ (opAt d (n + 1 - 1)).1 then 1 else 0 := rfl
    have e2 : badTo d (n + 1 + 1) = badTo d (n + 1) + if n + 1 ≠ 0 ∧ badAt d (n + 1) = true then 1 else 0 := rfl
    rw [e1, e2, h1, comTo_succ (by omega), Nat.add_sub_cancel]
    have hk := calm_at hc (show n < n + 1 by omega) (show n + 1 < d.length by omega)
    unfold badAt
    rw [Nat.add_sub_cancel]
    by_cases h3 : (opAt d n).2.1 = 3
    · have := hk h3
      have h4 : (opAt d (n + 1)).1 ≠ (opAt d n).1 := fun e => this e.symm
      simp [h3, h4]
      omega
    · by_cases h4 : (opAt d (n + 1)).1 = (opAt d n).1
      · simp [h3, h4]
      · simp [h3, h4]
        omega
/-- What is done: right, and each of its deals commits. -/
structure Doing (d : List Op3) : Prop where
  calm : Calm d
  deal : ∀ o ∈ d, 1 ≤ o.1 ∧ o.1 ≤ 6
  ends : ∀ o ∈ d, ∃ p ∈ d, p.1 = o.1 ∧ p.2.1 = 3
theorem doing_done {l : List Op3} (h : (chk l).2 = 0) : Doing (doneL l) where
  calm := ((chk_iff _).1 (chk_done h)).2.2
  deal := fun o ho => isOp_tx (chk_ops (chk_done h) o ho)
  ends := fun o ho => by
    have ht := isOp_tx (chk_ops (chk_done h) o ho)
    have h1 : commIn (doneL l) o.1.toNat = true := by
      rw [commIn_done]
      exact (List.mem_filter.1 ho).2
    unfold commIn at h1
    obtain ⟨p, hp, h2⟩ := List.any_eq_true.1 h1
    simp only [Bool.and_eq_true, beq_iff_eq] at h2
    exact ⟨p, hp, by omega, h2.2⟩
theorem Doing.last {d : List Op3} (h : Doing d) {n : Nat} (hn : d.length = n + 1) : (opAt d n).2.1 = 3 := by
  obtain ⟨p, hp, h1, h2⟩ := h.ends (opAt d n) (opAt_mem (by omega))
  obtain ⟨j, hj, rfl⟩ := List.getElem_of_mem hp
  by_cases e : j = n
  · subst e; rw [opAt_get (by omega)]; exact h2
  · have := calm_at h.calm (show j < n by omega) (show n < d.length by omega) (by rw [opAt_get hj]; exact h2)
    rw [opAt_get hj] at this
    exact absurd h1 this
theorem Doing.coms {d : List Op3} (h : Doing d) : comTo d d.length = (dealsL d).length := by
  have hmem : ∀ x, x ∈ (d.filter fun o => o.2.1 == 3).map (·.1) ↔ x ∈ dealsL d := fun x => by
    rw [mem_deals, hasB_iff, List.mem_map]
    constructor
    · rintro ⟨o, ho, rfl⟩
      have hm := (List.mem_filter.1 ho).1
      exact ⟨(h.deal o hm).1, (h.deal o hm).2, o, hm, rfl⟩
    · rintro ⟨_, _, o, ho, rfl⟩
      obtain ⟨p, hp, h1, h2⟩ := h.ends o ho
      exact ⟨p, List.mem_filter.2 ⟨hp, by simp [h2]⟩, h1⟩
  have hn : ((d.filter fun o => o.2.1 == 3).map (·.1)).Nodup := by
    rw [List.nodup_iff_pairwise_ne, List.pairwise_map]
    refine List.Pairwise.imp_of_mem (fun {a b} ha _ hab => ?_) (h.calm.sublist List.filter_sublist)
    have h3 := (List.mem_filter.1 ha).2
    intro e
    exact hab ⟨e, by rw [show a.2.1 = 3 by simpa using h3]; rfl⟩
  have h1 := hn.length_le_of_subset (l₂ := dealsL d) fun x hx => (hmem x).1 hx
  have h2 := (rise_nodup (dealsL_rise d)).length_le_of_subset (l₂ := (d.filter fun o => o.2.1 == 3).map (·.1)) fun x hx => (hmem x).2 hx
  unfold comTo
  rw [List.take_length]
  rw [List.length_map] at h1 h2
  omega
theorem Doing.runs {d : List Op3} (h : Doing d) : runsTo d d.length = (dealsL d).length + badTo d d.length := by
  cases hn : d.length with
  | zero =>
    have e : d = [] := List.length_eq_zero_iff.1 hn
    subst e; rfl
  | succ n =>
    rw [runs_count h.calm n (by omega), ← h.coms, hn, comTo_succ (by omega), if_pos (h.last hn)]
    omega
theorem Doing.ser {d : List Op3} (h : Doing d) : (((runsTo d d.length : Nat) : Int) == ((dealsL d).length : Int)) = serB d := by
  rw [h.runs]
  unfold serB
  rw [Bool.eq_iff_iff, beq_iff_eq, decide_eq_true_iff]
  omega
end Go.Proofs.YtjcaekhkeobhpahDoor
