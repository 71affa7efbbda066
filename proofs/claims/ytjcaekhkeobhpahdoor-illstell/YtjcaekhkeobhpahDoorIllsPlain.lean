/-
  PROVED HERE: plain facts, with no word of the program: what goes wrong in a history (chapter 15), as lists; a history is strict just if nothing is dirty, rigorous just if nothing is unrepeated either; what is lost was unrepeated; ahead of the first op that goes wrong all is rigorous, with it no more.
  Conditions: none.
-/
import Derived.Test.YtjcaekhkeobhpahDoorFacesPlain
namespace Go.Proofs.YtjcaekhkeobhpahDoor

theorem isOp_kindsI {o : Op3} (h : isOpB o = true) : o.2.1 = 1 ∨ o.2.1 = 2 ∨ ((o.2.1 = 3 ∨ o.2.1 = 4) ∧ o.2.2 = 0) := by
  simp only [isOpB, endsB, Bool.and_eq_true, Bool.not_eq_true', Bool.or_eq_false_iff, decide_eq_false_iff_not] at h
  obtain ⟨⟨⟨⟨h1, h2⟩, h3⟩, h4⟩, h5⟩ := h
  rcases (show o.2.1 = 1 ∨ o.2.1 = 2 ∨ o.2.1 = 3 ∨ o.2.1 = 4 by omega) with e | e | e | e
  · exact .inl e
  · exact .inr (.inl e)
  · rw [e] at h5; simp at h5; exact .inr (.inr ⟨.inl e, h5⟩)
  · rw [e] at h5; simp at h5; exact .inr (.inr ⟨.inr e, h5⟩)
def anyTo (p : Nat → Bool) (n : Nat) : Bool := (List.range n).any p
theorem anyTo_zero (p : Nat → Bool) : anyTo p 0 = false := rfl
theorem anyTo_succ (p : Nat → Bool) (n : Nat) : anyTo p (n + 1) = (anyTo p n || p n) := by unfold anyTo; rw [List.range_succ, List.any_append]; simp
theorem anyTo_iff {p : Nat → Bool} {n : Nat} : anyTo p n = true ↔ ∃ i, i < n ∧ p i = true := by unfold anyTo; simp
theorem anyTo_not {p : Nat → Bool} {n : Nat} : anyTo p n = false ↔ ∀ i, i < n → p i = false := by unfold anyTo; simp
def illW (h : List Op3) (i : Nat) : Bool := (opAt h i).2.1 == 2 && openB h i 2
def illR (h : List Op3) (i : Nat) : Bool := (opAt h i).2.1 == 1 && openB h i 2
def illU (h : List Op3) (i : Nat) : Bool := (opAt h i).2.1 == 2 && openB h i 1
/-- Does an op go wrong? -/
def illAt (h : List Op3) (i : Nat) : Bool := decide ((opAt h i).2.1 ≤ 2) && (openB h i 2 || ((opAt h i).2.1 == 2 && openB h i 1))
def lostB (h : List Op3) (i k j : Nat) : Bool :=
  (opAt h i).2.1 == 1 && ((opAt h k).2.1 == 2 && ((opAt h j).2.1 == 2 && ((opAt h i).1 == (opAt h j).1 && ((opAt h i).1 != (opAt h k).1 && ((opAt h i).2.2 == (opAt h k).2.2 && ((opAt h i).2.2 == (opAt h j).2.2 && endOf h (opAt h i).1 == 3))))))
def lostJ (h : List Op3) (i k n : Nat) : Bool := anyTo (fun j => decide (k < j) && lostB h i k j) n
def lostK (h : List Op3) (i n : Nat) : Bool := anyTo (fun k => decide (i < k) && lostJ h i k h.length) n
def lostI (h : List Op3) (n : Nat) : Bool := anyTo (fun i => lostK h i h.length) n
theorem lostJ_first (h : List Op3) (i k : Nat) : lostJ h i k (k + 1) = false := anyTo_not.2 fun j hj => by simp; omega
theorem lostK_first (h : List Op3) (i : Nat) : lostK h i (i + 1) = false := anyTo_not.2 fun j hj => by simp; omega
theorem lostJ_succ (h : List Op3) {i k j : Nat} (hj : k < j) : lostJ h i k (j + 1) = (lostJ h i k j || lostB h i k j) := by unfold lostJ; rw [anyTo_succ, decide_eq_true hj, Bool.true_and]
theorem lostK_succ (h : List Op3) {i k : Nat} (hk : i < k) : lostK h i (k + 1) = (lostK h i k || lostJ h i k h.length) := by unfold lostK; rw [anyTo_succ, decide_eq_true hk, Bool.true_and]
theorem lostI_succ (h : List Op3) (i : Nat) : lostI h (i + 1) = (lostI h i || lostK h i h.length) := by unfold lostI; rw [anyTo_succ]
def firstTo (h : List Op3) : Nat → Int
  | 0 => -1
  | k + 1 => if firstTo h k < 0 ∧ illAt h k = true then k else firstTo h k
/-- What goes wrong: of a history that is right. -/
def illsR (h : List Op3) : (Bool × Bool × Bool × Bool) × Int := ((anyTo (illW h) h.length, anyTo (illR h) h.length, anyTo (illU h) h.length, lostI h h.length), firstTo h h.length)
theorem ill_rig (h : List Op3) (i : Nat) : rigAt h i = !illAt h i := rfl
theorem first_spec (h : List Op3) : ∀ n, (firstTo h n = -1 ∧ ∀ i, i < n → illAt h i = false) ∨ ∃ k : Nat, firstTo h n = k ∧ k < n ∧ illAt h k = true ∧ ∀ i, i < k → illAt h i = false := by
  intro n
  induction n with
  | zero => exact .inl ⟨rfl, fun i hi => by omega⟩
  | succ n ih =>
    rcases ih with ⟨h1, h2⟩ | ⟨k, h1, h2, h3, h4⟩
    · unfold firstTo
      rw [h1]
      cases hx : illAt h n with
      | true => exact .inr ⟨n, by simp, by omega, hx, h2⟩
      | false =>
        refine .inl ⟨by simp, fun i hi => ?_⟩
        rcases Nat.lt_or_ge i n with e | e
        · exact h2 i e
        · rw [show i = n by omega]; exact hx
    · refine .inr ⟨k, ?_, by omega, h3, h4⟩
      unfold firstTo
      rw [h1, if_neg (by omega)]
theorem rig_any (h : List Op3) : rigB h = !anyTo (illAt h) h.length := by
  cases hx : anyTo (illAt h) h.length with
  | true =>
    obtain ⟨i, hi, he⟩ := anyTo_iff.1 hx
    cases hy : rigB h with
    | false => rfl
    | true => have := all_at.1 hy i hi; rw [ill_rig, he] at this; cases this
  | false => exact all_at.2 fun i hi => by rw [ill_rig, anyTo_not.1 hx i hi]; rfl
theorem ills_strict {h : List Op3} (hop : ∀ o ∈ h, isOpB o = true) : strB h = (!anyTo (illW h) h.length && !anyTo (illR h) h.length) := by
  rw [Bool.eq_iff_iff, Bool.and_eq_true, Bool.not_eq_true', Bool.not_eq_true', anyTo_not, anyTo_not]
  constructor
  · intro hs
    refine ⟨fun i hi => ?_, fun i hi => ?_⟩
    · have := all_at.1 hs i hi
      unfold strAt at this
      unfold illW
      cases h1 : (opAt h i).2.1 == 2 with
      | false => rfl
      | true =>
        rw [show decide ((opAt h i).2.1 ≤ 2) = true by simp at h1; rw [h1]; rfl] at this
        simpa using this
    · have := all_at.1 hs i hi
      unfold strAt at this
      unfold illR
      cases h1 : (opAt h i).2.1 == 1 with
      | false => rfl
      | true =>
        rw [show decide ((opAt h i).2.1 ≤ 2) = true by simp at h1; rw [h1]; rfl] at this
        simpa using this
  · rintro ⟨h1, h2⟩
    refine all_at.2 fun i hi => ?_
    have hk := isOp_kindsI (hop _ (opAt_mem hi))
    have a := h1 i hi
    have b := h2 i hi
    unfold illW at a
    unfold illR at b
    unfold strAt
    rcases hk with e | e | ⟨e, _⟩
    · rw [e] at b ⊢; simpa using b
    · rw [e] at a ⊢; simpa using a
    · rw [decide_eq_false (show ¬ (opAt h i).2.1 ≤ 2 by omega)]; rfl
theorem ills_rigor {h : List Op3} : rigB h = (strB h && !anyTo (illU h) h.length) := by
  rw [Bool.eq_iff_iff, Bool.and_eq_true, Bool.not_eq_true', anyTo_not]
  constructor
  · intro hr
    refine ⟨rig_str hr, fun i hi => ?_⟩
    have := all_at.1 hr i hi
    unfold rigAt at this
    unfold illU
    cases h1 : (opAt h i).2.1 == 2 with
    | false => rfl
    | true =>
      rw [h1, show decide ((opAt h i).2.1 ≤ 2) = true by simp at h1; rw [h1]; rfl] at this
      simp at this
      simpa using this.2
  · rintro ⟨h1, h2⟩
    refine all_at.2 fun i hi => ?_
    have a := all_at.1 h1 i hi
    have b := h2 i hi
    unfold strAt at a
    unfold illU at b
    unfold rigAt
    rw [b, Bool.or_false]
    exact a
/-- What is lost was unrepeated. -/
theorem lost_unrep {h : List Op3} (hc : (chk h).2 = 0) (hl : lostI h h.length = true) : anyTo (illU h) h.length = true := by
  obtain ⟨i, hi, h1⟩ := anyTo_iff.1 hl
  obtain ⟨k, hk, h2⟩ := anyTo_iff.1 h1
  rw [Bool.and_eq_true, decide_eq_true_eq] at h2
  obtain ⟨j, hj, h3⟩ := anyTo_iff.1 h2.2
  rw [Bool.and_eq_true, decide_eq_true_eq] at h3
  have h4 := h3.2
  unfold lostB at h4
  simp only [Bool.and_eq_true, beq_iff_eq, bne_iff_ne] at h4
  obtain ⟨a1, a2, a3, a4, a5, a6, a7, a8⟩ := h4
  refine anyTo_iff.2 ⟨k, hk, ?_⟩
  unfold illU
  rw [Bool.and_eq_true]
  refine ⟨by simpa using a2, openB_iff.2 ⟨i, h2.1, a1, a6, a5, ?_⟩⟩
  obtain ⟨_, hop, hcalm⟩ := (chk_iff h).1 hc
  unfold endBy
  rw [endOf_ended _ _ fun o ho => hop o (List.mem_of_mem_take ho)]
  rw [endedIn_false]
  rintro o ho ⟨e1, e2⟩
  obtain ⟨m, hm, e3⟩ := List.mem_iff_getElem.1 ho
  rw [List.length_take] at hm
  rw [List.getElem_take] at e3
  have e4 : opAt h m = o := by rw [opAt_get (show m < h.length by omega)]; exact e3
  have := calm_two hcalm (show m < j by omega) hj (by rw [e4]; exact e2)
  rw [e4, e1] at this
  exact this a4
/-- Ahead of the first op that goes wrong all is rigorous; with it no more. -/
theorem rig_first {h : List Op3} {k : Nat} (hk : k < h.length) (h1 : illAt h k = true) (h2 : ∀ i, i < k → illAt h i = false) : rigB (h.take k) = true ∧ rigB (h.take (k + 1)) = false := by
  have hat : ∀ n i, i < n → illAt (h.take n) i = illAt h i := fun n i hi => by
    unfold illAt
    rw [opAt_take hi, openB_take hi, openB_take hi]
  constructor
  · refine all_at.2 fun i hi => ?_
    rw [List.length_take] at hi
    rw [ill_rig, hat k i (by omega), h2 i (by omega)]
    rfl
  · cases hx : rigB (h.take (k + 1)) with
    | false => rfl
    | true =>
      have := all_at.1 hx k (by rw [List.length_take]; omega)
      rw [ill_rig, hat (k + 1) k (by omega), h1] at this
      cases this
end Go.Proofs.YtjcaekhkeobhpahDoor
