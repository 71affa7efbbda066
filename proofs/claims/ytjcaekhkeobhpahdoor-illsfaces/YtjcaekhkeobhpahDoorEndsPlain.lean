/-
  PROVED HERE: plain facts, with no word of the program: how each deal ends and where (a row of seven), who has committed, aborted or ended by a place by it; from whom Reads read, of those only what another one wrote; and that by these, and by the pairs that are at odds, a list is recoverable, cautious, strict and rigorous just as said op by op.
  Conditions: none.
-/
import Derived.Test.YtjcaekhkeobhpahDoorFacesPlain
namespace Go.Proofs.YtjcaekhkeobhpahDoor

/-- How each deal ends among the first ops, and where. -/
def setE (f : Nat → Int × Int) (x : Nat) (p : Int × Int) : Nat → Int × Int := fun i => if i = x then p else f i
def endE (h : List Op3) : Nat → Nat → Int × Int
  | 0 => fun _ => (0, 0)
  | k + 1 => if endsB (opAt h k).2.1 = true then setE (endE h k) (opAt h k).1.toNat ((opAt h k).2.1, (k : Int)) else endE h k
theorem endE_yes {h : List Op3} {k : Nat} (he : endsB (opAt h k).2.1 = true) : endE h (k + 1) = setE (endE h k) (opAt h k).1.toNat ((opAt h k).2.1, (k : Int)) := if_pos he
theorem endE_no {h : List Op3} {k : Nat} (he : endsB (opAt h k).2.1 = false) : endE h (k + 1) = endE h k := if_neg (by rw [he]; decide)
theorem endsB_two {a : Int} (h : endsB a = true) : a = 3 ∨ a = 4 := by simpa [endsB] using h
theorem endE_some {h : List Op3} {x : Nat} : ∀ {k : Nat}, (endE h k x).1 ≠ 0 → ∃ m : Nat, m < k ∧ (opAt h m).1.toNat = x ∧ endsB (opAt h m).2.1 = true ∧ endE h k x = ((opAt h m).2.1, (m : Int)) := by
  intro k
  induction k with
  | zero => intro h0; exact absurd rfl h0
  | succ k ih =>
    intro h0
    cases he : endsB (opAt h k).2.1 with
    | false =>
      rw [endE_no he] at h0 ⊢
      obtain ⟨m, m1, m2⟩ := ih h0
      exact ⟨m, by omega, m2⟩
    | true =>
      rw [endE_yes he] at h0 ⊢
      unfold setE at h0 ⊢
      by_cases hx : x = (opAt h k).1.toNat
      · rw [if_pos hx]; exact ⟨k, by omega, hx.symm, he, rfl⟩
      · rw [if_neg hx] at h0 ⊢
        obtain ⟨m, m1, m2⟩ := ih h0
        exact ⟨m, by omega, m2⟩
theorem endE_hit {h : List Op3} {m x : Nat} (hx : (opAt h m).1.toNat = x) (he : endsB (opAt h m).2.1 = true) : ∀ {k : Nat}, m < k → (endE h k x).1 ≠ 0 := by
  intro k
  induction k with
  | zero => intro h; omega
  | succ k ih =>
    intro hk
    cases hk' : endsB (opAt h k).2.1 with
    | false =>
      rw [endE_no hk']
      refine ih ?_
      rcases Nat.lt_or_ge m k with e | e
      · exact e
      · rw [show m = k by omega, hk'] at he; cases he
    | true =>
      rw [endE_yes hk']
      unfold setE
      by_cases hx' : x = (opAt h k).1.toNat
      · rw [if_pos hx']
        rcases endsB_two hk' with e | e <;> simp [e]
      · rw [if_neg hx']
        refine ih ?_
        rcases Nat.lt_or_ge m k with e | e
        · exact e
        · rw [show m = k by omega] at hx; exact absurd hx.symm hx'
/-- By the row, a deal did so ahead of a place. -/
def byE (f : Nat → Int × Int) (t i a : Int) : Bool := (f t.toNat).1 == a && decide ((f t.toNat).2 < i)
theorem end_one {h : List Op3} (hc : Calm h) (hop : ∀ o ∈ h, isOpB o = true) {m k : Nat} (hm : m < h.length) (hk : k < h.length) (ht : (opAt h m).1.toNat = (opAt h k).1.toNat) (e1 : endsB (opAt h m).2.1 = true) (e2 : endsB (opAt h k).2.1 = true) : m = k := by
  have t1 := isOp_tx (hop _ (opAt_mem hm))
  have t2 := isOp_tx (hop _ (opAt_mem hk))
  have he : (opAt h m).1 = (opAt h k).1 := by omega
  rcases Nat.lt_trichotomy m k with e | e | e
  · exact absurd he (calm_two hc e hk e1)
  · exact e
  · exact absurd he.symm (calm_two hc e hm e2)
theorem endE_at {h : List Op3} (hc : Calm h) (hop : ∀ o ∈ h, isOpB o = true) {m : Nat} (hm : m < h.length) (he : endsB (opAt h m).2.1 = true) : endE h h.length (opAt h m).1.toNat = ((opAt h m).2.1, (m : Int)) := by
  obtain ⟨k, k1, k2, k3, k4⟩ := endE_some (endE_hit rfl he hm)
  rw [k4, end_one hc hop k1 hm k2 k3 he]
theorem byE_end {h : List Op3} (hc : Calm h) (hop : ∀ o ∈ h, isOpB o = true) {t a : Int} (ht : 1 ≤ t) (ha : a = 3 ∨ a = 4) {i : Nat} (hi : i ≤ h.length) : byE (endE h h.length) t i a = (endBy h t i == a) := by
  rw [Bool.eq_iff_iff]
  unfold byE
  simp only [Bool.and_eq_true, beq_iff_eq, decide_eq_true_eq]
  constructor
  · rintro ⟨h1, h2⟩
    obtain ⟨m, m1, m2, m3, m4⟩ := endE_some (h := h) (x := t.toNat) (k := h.length) (by omega)
    rw [m4] at h1 h2
    have tm := isOp_tx (hop _ (opAt_mem m1))
    rw [endBy_at hc hop hi (show m < i by simpa using h2) (show (opAt h m).1 = t by omega) (by simp only at h1; omega)]
    exact h1
  · intro h1
    obtain ⟨k, k1, k2, k3, k4⟩ := endBy_some t hi (by omega)
    have hk : k < h.length := by omega
    have hek : endsB (opAt h k).2.1 = true := by
      rw [isOp_ends (hop _ (opAt_mem hk))]
      simpa using k3
    have := endE_at hc hop hk hek
    rw [k2] at this
    rw [this]
    exact ⟨by simp only; omega, by simp only; omega⟩
/-- From whom each Read reads, among the first ops. -/
def srcTo (h : List Op3) : Nat → List Edge2
  | 0 => []
  | k + 1 => if (opAt h k).2.1 = 1 then srcTo h k ++ [((k : Int), fromI h k)] else srcTo h k
theorem srcTo_len (h : List Op3) (k : Nat) : (srcTo h k).length ≤ k := by
  induction k with
  | zero => exact Nat.le_refl _
  | succ k ih =>
    rw [srcTo]
    split
    · rw [List.length_append]; simp; omega
    · omega
theorem mem_src {h : List Op3} {e : Edge2} : ∀ {k : Nat}, e ∈ srcTo h k ↔ ∃ i : Nat, i < k ∧ (opAt h i).2.1 = 1 ∧ e = ((i : Int), fromI h i) := by
  intro k
  induction k with
  | zero => exact ⟨fun h => absurd h (by simp [srcTo]), fun ⟨i, h, _⟩ => absurd h (by omega)⟩
  | succ k ih =>
    rw [srcTo]
    by_cases h1 : (opAt h k).2.1 = 1
    · rw [if_pos h1, List.mem_append, ih]
      constructor
      · rintro (⟨i, i1, i2⟩ | h2)
        · exact ⟨i, by omega, i2⟩
        · exact ⟨k, by omega, h1, by simpa using h2⟩
      · rintro ⟨i, i1, i2, i3⟩
        rcases Nat.lt_or_ge i k with e | e
        · exact .inl ⟨i, e, i2, i3⟩
        · rw [show i = k by omega] at i3; exact .inr (by simp [i3])
    · rw [if_neg h1, ih]
      constructor
      · rintro ⟨i, i1, i2⟩; exact ⟨i, by omega, i2⟩
      · rintro ⟨i, i1, i2, i3⟩
        refine ⟨i, ?_, i2, i3⟩
        rcases Nat.lt_or_ge i k with e | e
        · exact e
        · rw [show i = k by omega] at i2; exact absurd i2 h1
/-- What is not lent: nobody wrote it, or the deal itself. -/
def ownB (h : List Op3) (s : Edge2) : Bool := s.2 == 0 || s.2 == (opAt h s.1.toNat).1
def lentL (h : List Op3) : List Edge2 := (srcTo h h.length).filter fun s => !ownB h s
theorem mem_lent {h : List Op3} {e : Edge2} : e ∈ lentL h ↔ ∃ i : Nat, i < h.length ∧ (opAt h i).2.1 = 1 ∧ e = ((i : Int), fromI h i) ∧ fromI h i ≠ 0 ∧ fromI h i ≠ (opAt h i).1 := by
  unfold lentL
  rw [List.mem_filter, mem_src]
  constructor
  · rintro ⟨⟨i, i1, i2, rfl⟩, h2⟩
    simp [ownB] at h2
    exact ⟨i, i1, i2, rfl, h2.1, h2.2⟩
  · rintro ⟨i, i1, i2, rfl, h2, h3⟩
    refine ⟨⟨i, i1, i2, rfl⟩, ?_⟩
    simp [ownB]
    exact ⟨h2, h3⟩
theorem from_tx {h : List Op3} (hop : ∀ o ∈ h, isOpB o = true) {i : Nat} (hi : i < h.length) (h0 : fromI h i ≠ 0) : 1 ≤ fromI h i ∧ fromI h i ≤ 6 := by
  obtain ⟨m, m1, _, _, _, m5⟩ := fromTo_some (show fromTo h (opAt h i).2.2 i i ≠ 0 from h0)
  have := isOp_tx (hop _ (opAt_mem (show m < h.length by omega)))
  unfold fromI
  omega
/-- The four questions. -/
def earlyB (h : List Op3) (f : Nat → Int × Int) (s : Edge2) : Bool := (f (opAt h s.1.toNat).1.toNat).1 == 3 && !byE f s.2 (f (opAt h s.1.toNat).1.toNat).2 3
def dirtyB (f : Nat → Int × Int) (s : Edge2) : Bool := !byE f s.2 s.1 3
def openE (h : List Op3) (f : Nat → Int × Int) (p : Edge2) : Bool := !(byE f (opAt h p.1.toNat).1 p.2 3 || byE f (opAt h p.1.toNat).1 p.2 4)
def openW (h : List Op3) (f : Nat → Int × Int) (p : Edge2) : Bool := (opAt h p.1.toNat).2.1 == 2 && openE h f p
theorem not_any {α : Type} {l : List α} {p : α → Bool} : (!l.any p) = true ↔ ∀ x ∈ l, p x = false := by simp
theorem cau_lent {h : List Op3} (hc : Calm h) (hop : ∀ o ∈ h, isOpB o = true) : (!(lentL h).any (dirtyB (endE h h.length))) = cauB h := by
  rw [Bool.eq_iff_iff, not_any]
  unfold cauB
  rw [all_at]
  have key : ∀ i, i < h.length → fromI h i ≠ 0 → dirtyB (endE h h.length) ((i : Int), fromI h i) = !(endBy h (fromI h i) i == 3) := fun i hi h0 => by
    unfold dirtyB
    rw [byE_end hc hop (from_tx hop hi h0).1 (.inl rfl) (Nat.le_of_lt hi)]
  constructor
  · intro H i hi
    unfold cauAt
    cases h1 : (opAt h i).2.1 == 1 with
    | false => rfl
    | true =>
      cases h2 : fromI h i != 0 with
      | false => rfl
      | true =>
        cases h3 : fromI h i != (opAt h i).1 with
        | false => rfl
        | true =>
          have h2' : fromI h i ≠ 0 := by simpa using h2
          have := H _ (mem_lent.2 ⟨i, hi, by simpa using h1, rfl, h2', by simpa using h3⟩)
          rw [key i hi h2'] at this
          simpa using this
  · intro H e he
    obtain ⟨i, i1, i2, rfl, i4, i5⟩ := mem_lent.1 he
    rw [key i i1 i4]
    have := H i i1
    unfold cauAt at this
    simpa [i2, i4, i5] using this
theorem when_end {h : List Op3} (hc : Calm h) (hop : ∀ o ∈ h, isOpB o = true) {t : Int} (ht : 1 ≤ t) : ((endE h h.length t.toNat).1 = 3 ∧ (endE h h.length t.toNat).2 = whenI h t ∧ 0 ≤ whenI h t) ∨ ((endE h h.length t.toNat).1 ≠ 3 ∧ whenI h t = -1) := by
  by_cases h3 : (endE h h.length t.toNat).1 = 3
  · obtain ⟨m, m1, m2, m3, m4⟩ := endE_some (h := h) (x := t.toNat) (k := h.length) (by omega)
    have tm := isOp_tx (hop _ (opAt_mem m1))
    rw [m4] at h3 ⊢
    have hw := whenTo_hit (h := h) (t := t) (m := m) (by omega) h3 m1
    obtain ⟨q, q1, q2, q3, q4⟩ := whenTo_some hw.1
    have hq : q = m := end_one hc hop q1 m1 (by omega) (by rw [q4]; rfl) m3
    subst hq
    have e : whenI h t = q := q2
    exact .inl ⟨h3, by rw [e], by rw [e]; omega⟩
  · refine .inr ⟨h3, ?_⟩
    by_cases hw : whenI h t = -1
    · exact hw
    · obtain ⟨q, q1, q2, q3, q4⟩ := whenTo_some hw
      have := endE_at hc hop q1 (by rw [q4]; rfl)
      rw [q3] at this
      rw [this] at h3
      exact absurd q4 h3
theorem rec_lent {h : List Op3} (hc : Calm h) (hop : ∀ o ∈ h, isOpB o = true) : (!(lentL h).any (earlyB h (endE h h.length))) = recB h := by
  rw [Bool.eq_iff_iff, not_any]
  unfold recB
  rw [all_at]
  have key : ∀ i, i < h.length → fromI h i ≠ 0 → fromI h i ≠ (opAt h i).1 → earlyB h (endE h h.length) ((i : Int), fromI h i) = (decide (0 ≤ whenI h (opAt h i).1) && (decide (whenI h (fromI h i) < 0) || decide (whenI h (opAt h i).1 < whenI h (fromI h i)))) := fun i hi h0 hne => by
    have ti := isOp_tx (hop _ (opAt_mem hi))
    have tf := from_tx hop hi h0
    have w1 := when_end hc hop ti.1
    have w2 := when_end hc hop tf.1
    have hun : 0 ≤ whenI h (opAt h i).1 → whenI h (opAt h i).1 ≠ whenI h (fromI h i) := fun hz he => by
      obtain ⟨q, q1, q2, q3, q4⟩ := whenTo_some (show whenTo h (opAt h i).1 h.length ≠ -1 from fun h => by unfold whenI at hz; omega)
      obtain ⟨p, p1, p2, p3, p4⟩ := whenTo_some (show whenTo h (fromI h i) h.length ≠ -1 from fun h => by unfold whenI at hz he; omega)
      have : (q : Int) = p := by rw [← q2, ← p2]; exact he
      have : q = p := by omega
      subst this
      rw [q3] at p3
      exact hne p3.symm
    unfold earlyB byE
    simp only [Int.toNat_natCast]
    rw [Bool.eq_iff_iff]
    simp only [Bool.and_eq_true, beq_iff_eq, Bool.not_eq_true', Bool.and_eq_false_iff, beq_eq_false_iff_ne, decide_eq_false_iff_not, decide_eq_true_eq, Bool.or_eq_true, ne_eq]
    constructor
    · rintro ⟨a1, a2⟩
      rcases w1 with ⟨b1, b2, b3⟩ | ⟨b1, _⟩
      · refine ⟨b3, ?_⟩
        have hu := hun b3
        rcases w2 with ⟨c1, c2, c3⟩ | ⟨_, c2⟩
        · rcases a2 with a2 | a2
          · exact absurd c1 a2
          · right; omega
        · left; omega
      · exact absurd a1 b1
    · rintro ⟨a1, a2⟩
      rcases w1 with ⟨b1, b2, b3⟩ | ⟨_, b2⟩
      · refine ⟨b1, ?_⟩
        rcases w2 with ⟨c1, c2, c3⟩ | ⟨c1, _⟩
        · right; omega
        · exact .inl c1
      · omega
  constructor
  · intro H i hi
    unfold recAt
    cases h1 : (opAt h i).2.1 == 1 with
    | false => rfl
    | true =>
      cases h2 : fromI h i != 0 with
      | false => rfl
      | true =>
        cases h3 : fromI h i != (opAt h i).1 with
        | false => rfl
        | true =>
          have h2' : fromI h i ≠ 0 := by simpa using h2
          have h3' : fromI h i ≠ (opAt h i).1 := by simpa using h3
          have := H _ (mem_lent.2 ⟨i, hi, by simpa using h1, rfl, h2', h3'⟩)
          rw [key i hi h2' h3'] at this
          rw [this]
          rfl
  · intro H e he
    obtain ⟨i, i1, i2, rfl, i4, i5⟩ := mem_lent.1 he
    rw [key i i1 i4 i5]
    have := H i i1
    unfold recAt at this
    rw [show ((opAt h i).2.1 == 1) = true by simp [i2], show (fromI h i != 0) = true by simp [i4], show (fromI h i != (opAt h i).1) = true by simp [i5]] at this
    simpa only [Bool.true_and, Bool.not_eq_true'] using this
/-- Who stands by a place that is not open has ended. -/
theorem openE_end {h : List Op3} (hc : Calm h) (hop : ∀ o ∈ h, isOpB o = true) {i j : Nat} (hi : i < h.length) (hj : j < h.length) : openE h (endE h h.length) ((i : Int), (j : Int)) = (endBy h (opAt h i).1 j == 0) := by
  have ti := isOp_tx (hop _ (opAt_mem hi))
  unfold openE
  simp only [Int.toNat_natCast]
  rw [byE_end hc hop ti.1 (.inl rfl) (Nat.le_of_lt hj), byE_end hc hop ti.1 (.inr rfl) (Nat.le_of_lt hj)]
  rcases endBy_kind hop (opAt h i).1 (Nat.le_of_lt hj) with e | e | e <;> rw [e] <;> rfl
theorem op_kind {o : Op3} (h : isOpB o = true) (h1 : 1 ≤ o.2.2) : o.2.1 = 1 ∨ o.2.1 = 2 := by
  simp only [isOpB, Bool.and_eq_true, Bool.not_eq_true', Bool.or_eq_false_iff, decide_eq_false_iff_not] at h
  obtain ⟨⟨⟨_, h3⟩, h4⟩, h5⟩ := h
  by_cases he : endsB o.2.1 = true
  · rw [if_pos he] at h5
    have : o.2.2 = 0 := by simpa using h5
    omega
  · simp only [endsB, Bool.or_eq_true, beq_iff_eq, not_or] at he
    omega
theorem str_pairs {h : List Op3} (hc : Calm h) (hop : ∀ o ∈ h, isOpB o = true) : (!(pairsL h).any (openW h (endE h h.length))) = strB h := by
  rw [Bool.eq_iff_iff, not_any]
  unfold strB
  rw [all_at]
  constructor
  · intro H i hi
    unfold strAt
    cases h1 : decide ((opAt h i).2.1 ≤ 2) with
    | false => rfl
    | true =>
      cases h2 : openB h i 2 with
      | false => rfl
      | true =>
        obtain ⟨m, m1, m2, m3, m4, m5⟩ := openB_iff.1 h2
        have := H _ (mem_pairs.2 ⟨m, i, m1, hi, by simp [oddB, m2, m3, m4], rfl⟩)
        unfold openW at this
        rw [openE_end hc hop (by omega) hi, m5] at this
        simp [m2] at this
  · intro H e he
    obtain ⟨m, i, m1, hi, ho, rfl⟩ := mem_pairs.1 he
    unfold openW
    rw [openE_end hc hop (by omega) hi]
    simp only [oddB, Bool.and_eq_true, bne_iff_ne, beq_iff_eq, Bool.or_eq_true] at ho
    obtain ⟨o1, o2, o3⟩ := ho
    simp only [Int.toNat_natCast]
    cases h2 : (opAt h m).2.1 == 2 with
    | false => rfl
    | true =>
      have h2' : (opAt h m).2.1 = 2 := by simpa using h2
      have hit := isOp_item (hop _ (opAt_mem (show m < h.length by omega))) (.inr h2')
      have hk := op_kind (hop _ (opAt_mem hi)) (by omega)
      have h3 := H i hi
      unfold strAt at h3
      rw [show decide ((opAt h i).2.1 ≤ 2) = true from decide_eq_true (by omega)] at h3
      cases h4 : endBy h (opAt h m).1 i == 0 with
      | false => rfl
      | true => rw [openB_iff.2 ⟨m, m1, h2', o2, o1, by simpa using h4⟩] at h3; cases h3
theorem rig_pairs {h : List Op3} (hc : Calm h) (hop : ∀ o ∈ h, isOpB o = true) : (!(pairsL h).any (openE h (endE h h.length))) = rigB h := by
  rw [Bool.eq_iff_iff, not_any]
  unfold rigB
  rw [all_at]
  constructor
  · intro H i hi
    unfold rigAt
    cases h1 : decide ((opAt h i).2.1 ≤ 2) with
    | false => rfl
    | true =>
      have hno : ∀ wh, (wh = 2 ∨ (opAt h i).2.1 = 2) → openB h i wh = false := fun wh hwh => by
        cases h2 : openB h i wh with
        | false => rfl
        | true =>
          obtain ⟨m, m1, m2, m3, m4, m5⟩ := openB_iff.1 h2
          have hodd : oddB (opAt h m) (opAt h i) = true := by
            rcases hwh with e | e
            · simp [oddB, m2, m3, m4, e]
            · simp [oddB, m3, m4, e]
          have := H _ (mem_pairs.2 ⟨m, i, m1, hi, hodd, rfl⟩)
          rw [openE_end hc hop (by omega) hi, m5] at this
          simp at this
      rw [hno 2 (.inl rfl)]
      cases h2 : (opAt h i).2.1 == 2 with
      | false => rfl
      | true => rw [hno 1 (.inr (by simpa using h2))]; rfl
  · intro H e he
    obtain ⟨m, i, m1, hi, ho, rfl⟩ := mem_pairs.1 he
    rw [openE_end hc hop (by omega) hi]
    simp only [oddB, Bool.and_eq_true, bne_iff_ne, beq_iff_eq, Bool.or_eq_true] at ho
    obtain ⟨o1, o2, o3⟩ := ho
    have hm : m < h.length := by omega
    have hit : 1 ≤ (opAt h i).2.2 := by
      rcases o3 with e | e
      · have := isOp_item (hop _ (opAt_mem hm)) (.inr e); omega
      · exact (isOp_item (hop _ (opAt_mem hi)) (.inr e)).1
    have hk := op_kind (hop _ (opAt_mem hi)) hit
    have hkm := op_kind (hop _ (opAt_mem hm)) (by omega)
    have h3 := H i hi
    unfold rigAt at h3
    rw [show decide ((opAt h i).2.1 ≤ 2) = true from decide_eq_true (by omega)] at h3
    cases h4 : endBy h (opAt h m).1 i == 0 with
    | false => rfl
    | true =>
      have hop4 : ∀ wh, (opAt h m).2.1 = wh → openB h i wh = true := fun wh e => openB_iff.2 ⟨m, m1, e, o2, o1, by simpa using h4⟩
      rcases hkm with e | e
      · have h5 : (opAt h i).2.1 = 2 := by
          rcases o3 with e3 | e3
          · omega
          · exact e3
        rw [hop4 1 e, h5] at h3
        simp at h3
      · rw [hop4 2 e] at h3
        simp at h3
end Go.Proofs.YtjcaekhkeobhpahDoor
