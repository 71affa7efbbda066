/-
  PROVED HERE: plain facts, with no word of the program: how a deal has ended by a place, from whom an op reads, what may be undone of a list; what is rigorous is strict, what is strict is cautious, what is cautious is recoverable; what is rigorous is the same along the order in which its deals commit; a beginning of what is cautious, strict, rigorous is so.
  Conditions: none.
-/
import Derived.Test.YtjcaekhkeobhpahDoorJustPlain
import Derived.Test.YtjcaekhkeobhpahDoorPiecesPlain
import Derived.Test.YtjcaekhkeobhpahDoorViewPlain
namespace Go.Proofs.YtjcaekhkeobhpahDoor

/-- How a deal has ended by a place. -/
def endBy (h : List Op3) (t : Int) (i : Nat) : Int := endOf (h.take i) t
theorem calm_two {h : List Op3} (hc : Calm h) {i j : Nat} (hij : i < j) (hj : j < h.length) (he : endsB (opAt h i).2.1 = true) : (opAt h i).1 ≠ (opAt h j).1 := fun e => by
  have h1 := List.pairwise_iff_getElem.1 hc i j (by omega) hj hij
  rw [opAt_get (show i < h.length by omega), opAt_get hj] at e
  rw [opAt_get (show i < h.length by omega)] at he
  exact h1 ⟨e, he⟩
theorem endOf_yes {o : Op3} {r : List Op3} {t : Int} (h : o.1 = t ∧ 3 ≤ o.2.1) : endOf (o :: r) t = o.2.1 := if_pos h
theorem endOf_no {o : Op3} {r : List Op3} {t : Int} (h : ¬ (o.1 = t ∧ 3 ≤ o.2.1)) : endOf (o :: r) t = endOf r t := if_neg h
theorem endOf_app (l m : List Op3) (t : Int) : endOf (l ++ m) t = if endOf l t = 0 then endOf m t else endOf l t := by
  induction l with
  | nil => rfl
  | cons o r ih =>
    rw [List.cons_append]
    by_cases hc : o.1 = t ∧ 3 ≤ o.2.1
    · rw [endOf_yes hc, endOf_yes hc, if_neg (by omega)]
    · rw [endOf_no hc, endOf_no hc, ih]
theorem endBy_zero (h : List Op3) (t : Int) : endBy h t 0 = 0 := by simp [endBy, endOf]
theorem endBy_succ {h : List Op3} {i : Nat} (hi : i < h.length) (t : Int) : endBy h t (i + 1) = if endBy h t i = 0 then (if (opAt h i).1 = t ∧ 3 ≤ (opAt h i).2.1 then (opAt h i).2.1 else 0) else endBy h t i := by
  unfold endBy
  rw [List.take_succ_eq_append_getElem hi, endOf_app, opAt_get hi]
  simp [endOf]
/-- A deal has ended by a place just if an op of it that ends stands ahead of it, and as that op says. -/
theorem endBy_some {h : List Op3} (t : Int) : ∀ {i : Nat}, i ≤ h.length → endBy h t i ≠ 0 → ∃ k, k < i ∧ (opAt h k).1 = t ∧ 3 ≤ (opAt h k).2.1 ∧ (opAt h k).2.1 = endBy h t i := by
  intro i
  induction i with
  | zero => intro _ h0; exact absurd (endBy_zero h t) h0
  | succ i ih =>
    intro hi h0
    rw [endBy_succ (by omega)] at h0 ⊢
    by_cases hz : endBy h t i = 0
    · rw [if_pos hz] at h0 ⊢
      by_cases hc : (opAt h i).1 = t ∧ 3 ≤ (opAt h i).2.1
      · rw [if_pos hc]; exact ⟨i, by omega, hc.1, hc.2, rfl⟩
      · rw [if_neg hc] at h0; exact absurd rfl h0
    · rw [if_neg hz] at h0 ⊢
      obtain ⟨k, k1, k2⟩ := ih (by omega) hz
      exact ⟨k, by omega, k2⟩
theorem endBy_at {h : List Op3} (hc : Calm h) (hop : ∀ o ∈ h, isOpB o = true) {t : Int} {k : Nat} : ∀ {i : Nat}, i ≤ h.length → k < i → (opAt h k).1 = t → 3 ≤ (opAt h k).2.1 → endBy h t i = (opAt h k).2.1 := by
  intro i
  induction i with
  | zero => intro _ h; omega
  | succ i ih =>
    intro hi hk ht he
    rw [endBy_succ (by omega)]
    by_cases hz : endBy h t i = 0
    · rw [if_pos hz]
      rcases Nat.lt_or_ge k i with e | e
      · rw [ih (by omega) e ht he] at hz; omega
      · rw [show k = i by omega] at ht he ⊢
        rw [if_pos ⟨ht, he⟩]
    · rw [if_neg hz]
      rcases Nat.lt_or_ge k i with e | e
      · exact ih (by omega) e ht he
      · obtain ⟨m, m1, m2, m3, _⟩ := endBy_some t (show i ≤ h.length by omega) hz
        have hem : endsB (opAt h m).2.1 = true := by
          rw [isOp_ends (hop _ (opAt_mem (show m < h.length by omega)))]
          simpa using m3
        exact absurd (by rw [m2, ht]) (calm_two hc (show m < k by omega) (by omega) hem)
theorem endBy_kind {h : List Op3} (hop : ∀ o ∈ h, isOpB o = true) (t : Int) {i : Nat} (hi : i ≤ h.length) : endBy h t i = 0 ∨ endBy h t i = 3 ∨ endBy h t i = 4 := by
  by_cases h0 : endBy h t i = 0
  · exact .inl h0
  · obtain ⟨k, k1, _, k3, k4⟩ := endBy_some t hi h0
    have := hop _ (opAt_mem (show k < h.length by omega))
    simp [isOpB] at this
    omega
/-- An op's own deal has not ended by its place. -/
theorem endBy_own {h : List Op3} (hc : Calm h) (hop : ∀ o ∈ h, isOpB o = true) {i : Nat} (hi : i < h.length) : endBy h (opAt h i).1 i = 0 := by
  by_cases h0 : endBy h (opAt h i).1 i = 0
  · exact h0
  · obtain ⟨k, k1, k2, k3, _⟩ := endBy_some _ (Nat.le_of_lt hi) h0
    have hem : endsB (opAt h k).2.1 = true := by
      rw [isOp_ends (hop _ (opAt_mem (show k < h.length by omega)))]
      simpa using k3
    exact absurd k2 (calm_two hc k1 hi hem)
/-- From whom an op reads: who wrote the item last, of those that had not aborted by place i, among the first k. -/
def fromTo (h : List Op3) (x : Int) (i : Nat) : Nat → Int
  | 0 => 0
  | k + 1 => if (opAt h k).2.1 = 2 ∧ (opAt h k).2.2 = x ∧ endBy h (opAt h k).1 i ≠ 4 then (opAt h k).1 else fromTo h x i k
def fromI (h : List Op3) (i : Nat) : Int := fromTo h (opAt h i).2.2 i i
theorem fromTo_some {h : List Op3} {x : Int} {i : Nat} : ∀ {k : Nat}, fromTo h x i k ≠ 0 → ∃ m, m < k ∧ (opAt h m).2.1 = 2 ∧ (opAt h m).2.2 = x ∧ endBy h (opAt h m).1 i ≠ 4 ∧ (opAt h m).1 = fromTo h x i k := by
  intro k
  induction k with
  | zero => intro h0; exact absurd rfl h0
  | succ k ih =>
    intro h0
    rw [fromTo] at h0 ⊢
    by_cases hc : (opAt h k).2.1 = 2 ∧ (opAt h k).2.2 = x ∧ endBy h (opAt h k).1 i ≠ 4
    · rw [if_pos hc]; exact ⟨k, by omega, hc.1, hc.2.1, hc.2.2, rfl⟩
    · rw [if_neg hc] at h0 ⊢
      obtain ⟨m, m1, m2⟩ := ih h0
      exact ⟨m, by omega, m2⟩
/-- Did another deal that has not ended do such on the item of the i-th op, ahead of it? Among the first k. -/
def openTo (h : List Op3) (i : Nat) (what : Int) (k : Nat) : Bool := (List.range k).any fun m => (opAt h m).2.1 == what && ((opAt h m).2.2 == (opAt h i).2.2 && ((opAt h m).1 != (opAt h i).1 && endBy h (opAt h m).1 i == 0))
def openB (h : List Op3) (i : Nat) (what : Int) : Bool := openTo h i what i
theorem openB_iff {h : List Op3} {i : Nat} {what : Int} : openB h i what = true ↔ ∃ m, m < i ∧ (opAt h m).2.1 = what ∧ (opAt h m).2.2 = (opAt h i).2.2 ∧ (opAt h m).1 ≠ (opAt h i).1 ∧ endBy h (opAt h m).1 i = 0 := by
  simp [openB, openTo]
/-- When a deal commits, -1: never, among the first k. -/
def whenTo (h : List Op3) (t : Int) : Nat → Int
  | 0 => -1
  | k + 1 => if whenTo h t k = -1 then (if (opAt h k).1 = t ∧ (opAt h k).2.1 = 3 then k else -1) else whenTo h t k
def whenI (h : List Op3) (t : Int) : Int := whenTo h t h.length
theorem whenTo_some {h : List Op3} {t : Int} : ∀ {k : Nat}, whenTo h t k ≠ -1 → ∃ m : Nat, m < k ∧ whenTo h t k = m ∧ (opAt h m).1 = t ∧ (opAt h m).2.1 = 3 := by
  intro k
  induction k with
  | zero => intro h0; exact absurd rfl h0
  | succ k ih =>
    intro h0
    rw [whenTo] at h0 ⊢
    by_cases hz : whenTo h t k = -1
    · rw [if_pos hz] at h0 ⊢
      by_cases hc : (opAt h k).1 = t ∧ (opAt h k).2.1 = 3
      · rw [if_pos hc]; exact ⟨k, by omega, rfl, hc.1, hc.2⟩
      · rw [if_neg hc] at h0; exact absurd rfl h0
    · rw [if_neg hz] at h0 ⊢
      obtain ⟨m, m1, m2⟩ := ih hz
      exact ⟨m, by omega, m2⟩
theorem whenTo_hit {h : List Op3} {t : Int} {m : Nat} (h1 : (opAt h m).1 = t) (h2 : (opAt h m).2.1 = 3) : ∀ {k : Nat}, m < k → whenTo h t k ≠ -1 ∧ whenTo h t k ≤ m := by
  intro k
  induction k with
  | zero => intro h; omega
  | succ k ih =>
    intro hk
    rw [whenTo]
    by_cases hz : whenTo h t k = -1
    · rw [if_pos hz]
      rcases Nat.lt_or_ge m k with e | e
      · exact absurd hz (ih e).1
      · rw [show m = k by omega] at h1 h2 ⊢
        rw [if_pos ⟨h1, h2⟩]
        omega
    · rw [if_neg hz]
      rcases Nat.lt_or_ge m k with e | e
      · exact ih e
      · obtain ⟨q, q1, q2, _⟩ := whenTo_some hz
        exact ⟨hz, by omega⟩
/-- What may be undone, op by op. -/
def recAt (h : List Op3) (i : Nat) : Bool := !((opAt h i).2.1 == 1 && (fromI h i != 0 && (fromI h i != (opAt h i).1 && (decide (0 ≤ whenI h (opAt h i).1) && (decide (whenI h (fromI h i) < 0) || decide (whenI h (opAt h i).1 < whenI h (fromI h i)))))))
def cauAt (h : List Op3) (i : Nat) : Bool := !((opAt h i).2.1 == 1 && (fromI h i != 0 && (fromI h i != (opAt h i).1 && endBy h (fromI h i) i != 3)))
def strAt (h : List Op3) (i : Nat) : Bool := !(decide ((opAt h i).2.1 ≤ 2) && openB h i 2)
def rigAt (h : List Op3) (i : Nat) : Bool := !(decide ((opAt h i).2.1 ≤ 2) && (openB h i 2 || ((opAt h i).2.1 == 2 && openB h i 1)))
def recB (h : List Op3) : Bool := (List.range h.length).all (recAt h)
def cauB (h : List Op3) : Bool := (List.range h.length).all (cauAt h)
def strB (h : List Op3) : Bool := (List.range h.length).all (strAt h)
def rigB (h : List Op3) : Bool := (List.range h.length).all (rigAt h)
theorem all_at {p : Nat → Bool} {n : Nat} : (List.range n).all p = true ↔ ∀ i, i < n → p i = true := by simp
theorem rig_str {h : List Op3} (hr : rigB h = true) : strB h = true := all_at.2 fun i hi => by
  have := all_at.1 hr i hi
  unfold rigAt at this
  unfold strAt
  cases h1 : decide ((opAt h i).2.1 ≤ 2) <;> cases h2 : openB h i 2 <;> simp_all
theorem str_cau {h : List Op3} (hop : ∀ o ∈ h, isOpB o = true) (hs : strB h = true) : cauB h = true := all_at.2 fun i hi => by
  have h1 := all_at.1 hs i hi
  unfold cauAt
  cases hr : (opAt h i).2.1 == 1 with
  | false => rfl
  | true =>
    have hr1 : (opAt h i).2.1 = 1 := by simpa using hr
    cases hf : fromI h i != 0 with
    | false => rfl
    | true =>
      cases hg : fromI h i != (opAt h i).1 with
      | false => rfl
      | true =>
        obtain ⟨m, m1, m2, m3, m4, m5⟩ := fromTo_some (show fromTo h (opAt h i).2.2 i i ≠ 0 by simpa [fromI] using hf)
        have m5' : (opAt h m).1 = fromI h i := m5
        have hno : openB h i 2 = false := by
          unfold strAt at h1
          simpa [hr1] using h1
        have h0 : endBy h (fromI h i) i ≠ 0 := fun e => by
          have : openB h i 2 = true := openB_iff.2 ⟨m, m1, m2, m3, by rw [m5']; simpa using hg, by rw [m5']; exact e⟩
          rw [this] at hno; cases hno
        rw [m5'] at m4
        rcases endBy_kind hop (fromI h i) (Nat.le_of_lt hi) with e | e | e
        · exact absurd e h0
        · simp [e]
        · exact absurd e m4
theorem cau_rec {h : List Op3} (hc : Calm h) (hs : cauB h = true) : recB h = true := all_at.2 fun i hi => by
  have h1 := all_at.1 hs i hi
  unfold cauAt at h1
  unfold recAt
  cases hr : (opAt h i).2.1 == 1 with
  | false => rfl
  | true =>
    cases hf : fromI h i != 0 with
    | false => rfl
    | true =>
      cases hg : fromI h i != (opAt h i).1 with
      | false => rfl
      | true =>
        rw [hr, hf, hg] at h1
        have h3 : endBy h (fromI h i) i = 3 := by simpa using h1
        obtain ⟨k, k1, k2, k3, k4⟩ := endBy_some (fromI h i) (Nat.le_of_lt hi) (by rw [h3]; decide)
        have hw := whenTo_hit (t := fromI h i) k2 (by rw [k4, h3]) (show k < h.length by omega)
        obtain ⟨q, _, q2, _⟩ := whenTo_some hw.1
        by_cases hm : whenI h (opAt h i).1 = -1
        · rw [show decide (0 ≤ whenI h (opAt h i).1) = false from decide_eq_false (by rw [hm]; decide)]; rfl
        · obtain ⟨m, m1, m2, m3, m4⟩ := whenTo_some hm
          have him : i < m := by
            rcases Nat.lt_trichotomy i m with e | e | e
            · exact e
            · subst e
              have : (opAt h i).2.1 = 1 := by simpa using hr
              omega
            · have hem : endsB (opAt h m).2.1 = true := by rw [m4]; rfl
              exact absurd m3 (calm_two hc e hi hem)
          have e1 : whenI h (fromI h i) = q := q2
          have e2 : whenI h (opAt h i).1 = m := m2
          have hqk : (q : Int) ≤ k := by rw [← q2]; exact hw.2
          rw [show decide (whenI h (fromI h i) < 0) = false from decide_eq_false (by omega), show decide (whenI h (opAt h i).1 < whenI h (fromI h i)) = false from decide_eq_false (by omega)]
          simp
theorem two_sub {α : Type} : ∀ {l : List α} {i j : Nat} {x y : α}, i < j → l[i]? = some x → l[j]? = some y → [x, y].Sublist l := by
  intro l
  induction l with
  | nil => intro i j x y _ h; simp at h
  | cons a l ih =>
    intro i j x y hij hi hj
    cases j with
    | zero => omega
    | succ j =>
      cases i with
      | zero =>
        simp at hi hj
        subst hi
        exact List.Sublist.cons_cons a (List.singleton_sublist.2 (List.mem_of_getElem? hj))
      | succ i =>
        simp at hi hj
        exact (ih (by omega) hi hj).cons a
theorem sub_two {α : Type} : ∀ {l : List α} {x y : α}, [x, y].Sublist l → ∃ i j : Nat, i < j ∧ l[i]? = some x ∧ l[j]? = some y := by
  intro l
  induction l with
  | nil => intro x y h; cases h
  | cons a l ih =>
    intro x y h
    cases h with
    | cons _ h =>
      obtain ⟨i, j, hij, hi, hj⟩ := ih h
      exact ⟨i + 1, j + 1, by omega, by simpa using hi, by simpa using hj⟩
    | cons_cons _ h =>
      obtain ⟨j, hj⟩ := List.mem_iff_getElem?.1 (List.singleton_sublist.1 h)
      exact ⟨0, j + 1, by omega, by simp, by simpa using hj⟩
theorem opAt_some {l : List Op3} {i : Nat} {o : Op3} (h : l[i]? = some o) : opAt l i = o ∧ i < l.length := by
  have := (List.getElem?_eq_some_iff.1 h).1
  exact ⟨by simp [opAt, List.getD, h], this⟩
theorem some_opAt {l : List Op3} {i : Nat} (h : i < l.length) : l[i]? = some (opAt l i) := by
  simp [opAt, List.getD, List.getElem?_eq_getElem h]
/-- The deals that commit, as they do. -/
def comL (h : List Op3) : List Int := (h.filter fun o => o.2.1 == 3).map (·.1)
theorem mem_com {h : List Op3} {x : Int} : x ∈ comL h ↔ ∃ o ∈ h, o.2.1 = 3 ∧ o.1 = x := by
  simp only [comL, List.mem_map, List.mem_filter, beq_iff_eq]
  constructor
  · rintro ⟨o, ⟨h1, h2⟩, h3⟩; exact ⟨o, h1, h2, h3⟩
  · rintro ⟨o, h1, h2, h3⟩; exact ⟨o, ⟨h1, h2⟩, h3⟩
theorem com_once {h : List Op3} (hc : Calm h) : (comL h).Nodup := by
  unfold comL
  rw [List.nodup_iff_pairwise_ne, List.pairwise_map]
  refine List.Pairwise.imp_of_mem ?_ (List.Pairwise.sublist List.filter_sublist hc)
  intro a b ha _ hab e
  have h3 : a.2.1 = 3 := by simpa using (List.mem_filter.1 ha).2
  exact hab ⟨e, by rw [h3]; rfl⟩
theorem com_sort {h : List Op3} (hc : (chk h).2 = 0) : sortI (comL h) = dealsL (doneL h) := by
  have hop := chk_ops hc
  refine sort_of_mem (com_once ((chk_iff h).1 hc).2.2) (dealsL_rise _) fun x => ?_
  rw [mem_com, mem_deals, hasB_iff]
  constructor
  · rintro ⟨o, h1, h2, h3⟩
    have ht := isOp_tx (hop o h1)
    refine ⟨by omega, by omega, o, ?_, h3⟩
    unfold doneL
    refine List.mem_filter.2 ⟨h1, ?_⟩
    unfold commIn
    exact List.any_eq_true.2 ⟨o, h1, by simp [h2]; omega⟩
  · rintro ⟨_, _, o, h1, h2⟩
    obtain ⟨h3, h4⟩ := List.mem_filter.1 h1
    unfold commIn at h4
    obtain ⟨p, p1, p2⟩ := List.any_eq_true.1 h4
    simp only [Bool.and_eq_true, beq_iff_eq] at p2
    have ht := isOp_tx (hop o h3)
    exact ⟨p, p1, p2.2, by omega⟩
theorem com_at {h : List Op3} {o : Op3} (ho : o ∈ doneL h) (ht : 1 ≤ o.1) : ∃ c, c < h.length ∧ (opAt h c).1 = o.1 ∧ (opAt h c).2.1 = 3 := by
  obtain ⟨_, h4⟩ := List.mem_filter.1 ho
  unfold commIn at h4
  obtain ⟨p, p1, p2⟩ := List.any_eq_true.1 h4
  simp only [Bool.and_eq_true, beq_iff_eq] at p2
  obtain ⟨c, hc⟩ := List.mem_iff_getElem?.1 p1
  obtain ⟨e1, e2⟩ := opAt_some hc
  exact ⟨c, e2, by rw [e1]; omega, by rw [e1]; exact p2.2⟩
/-- What is rigorous keeps to its edges as its deals commit. -/
theorem rig_keeps {h : List Op3} (hc : (chk h).2 = 0) (hr : rigB h = true) : Keeps (edgesTo (doneL h) 36) (comL h) := by
  intro e he
  have hop := chk_ops hc
  have hcalm := ((chk_iff h).1 hc).2.2
  obtain ⟨i, j, hij, hj, ho, rfl⟩ := mem_edge he
  have hs : [opAt (doneL h) i, opAt (doneL h) j].Sublist h := (two_sub hij (some_opAt (by omega)) (some_opAt hj)).trans List.filter_sublist
  have hi1 : opAt (doneL h) i ∈ doneL h := opAt_mem (by omega)
  have hj1 : opAt (doneL h) j ∈ doneL h := opAt_mem hj
  obtain ⟨a, b, hab, ha, hb⟩ := sub_two hs
  obtain ⟨ea, la⟩ := opAt_some ha
  obtain ⟨eb, lb⟩ := opAt_some hb
  rw [← ea] at ho hi1 ⊢
  rw [← eb] at ho hj1 ⊢
  unfold oddB at ho
  simp only [Bool.and_eq_true, bne_iff_ne, beq_iff_eq, Bool.or_eq_true] at ho
  obtain ⟨hne, hx, hw⟩ := ho
  have ta := isOp_tx (hop _ (opAt_mem la))
  have tb := isOp_tx (hop _ (opAt_mem lb))
  have kind : ∀ {k : Nat}, k < h.length → 1 ≤ (opAt h k).2.2 → (opAt h k).2.1 = 1 ∨ (opAt h k).2.1 = 2 := fun {k} hk h1 => by
    have h2 := hop _ (opAt_mem hk)
    simp only [isOpB, Bool.and_eq_true, Bool.not_eq_true', Bool.or_eq_false_iff, decide_eq_false_iff_not] at h2
    obtain ⟨⟨⟨_, h3⟩, h4⟩, h5⟩ := h2
    by_cases he : endsB (opAt h k).2.1 = true
    · rw [if_pos he] at h5
      have : (opAt h k).2.2 = 0 := by simpa using h5
      omega
    · simp only [endsB, Bool.or_eq_true, beq_iff_eq, not_or] at he
      omega
  have hitem : 1 ≤ (opAt h b).2.2 := by
    rcases hw with h2 | h2
    · have := isOp_item (hop _ (opAt_mem la)) (.inr h2)
      omega
    · exact (isOp_item (hop _ (opAt_mem lb)) (.inr h2)).1
  have kb := kind lb hitem
  have ka := kind la (by omega)
  have hrb := all_at.1 hr b lb
  have hend : endBy h (opAt h a).1 b ≠ 0 := fun h0 => by
    have hopen : ∀ wh, (opAt h a).2.1 = wh → openB h b wh = true := fun wh h1 => openB_iff.2 ⟨a, hab, h1, hx, hne, h0⟩
    unfold rigAt at hrb
    rw [show decide ((opAt h b).2.1 ≤ 2) = true from decide_eq_true (by omega)] at hrb
    rcases ka with h1 | h1
    · have h2 : (opAt h b).2.1 = 2 := by
        rcases hw with h3 | h3
        · omega
        · exact h3
      rw [hopen 1 h1, h2] at hrb
      simp at hrb
    · rw [hopen 2 h1] at hrb
      simp at hrb
  obtain ⟨k, k1, k2, k3, _⟩ := endBy_some _ (Nat.le_of_lt lb) hend
  obtain ⟨c1, c1l, c1t, c1w⟩ := com_at hi1 ta.1
  obtain ⟨c2, c2l, c2t, c2w⟩ := com_at hj1 tb.1
  have hkc : k = c1 := by
    have hek : endsB (opAt h k).2.1 = true := by
      rw [isOp_ends (hop _ (opAt_mem (show k < h.length by omega)))]
      simpa using k3
    have hec : endsB (opAt h c1).2.1 = true := by rw [c1w]; rfl
    rcases Nat.lt_trichotomy k c1 with e | e | e
    · exact absurd (by rw [k2, c1t]) (calm_two hcalm e c1l hek)
    · exact e
    · exact absurd (by rw [k2, c1t]) (calm_two hcalm e (by omega) hec)
  have hbc : b < c2 := by
    have hec : endsB (opAt h c2).2.1 = true := by rw [c2w]; rfl
    rcases Nat.lt_trichotomy b c2 with e | e | e
    · exact e
    · subst e; omega
    · exact absurd c2t (calm_two hcalm e lb hec)
  have hsub : [opAt h c1, opAt h c2].Sublist h := two_sub (show c1 < c2 by omega) (some_opAt c1l) (some_opAt c2l)
  have hfil := (hsub.filter fun o => o.2.1 == 3).map (fun o : Op3 => o.1)
  rw [List.filter_cons_of_pos (by simp [c1w]), List.filter_cons_of_pos (by simp [c2w])] at hfil
  rw [← c1t, ← c2t]
  exact hfil
/-- What is rigorous is the same, along the order in which its deals commit. -/
theorem rig_same {h : List Op3} (hc : (chk h).2 = 0) (hr : rigB h = true) : sortI (comL h) = dealsL (doneL h) ∧ sameB (alongL (doneL h) (comL h)) (doneL h) = true :=
  ⟨com_sort hc, same_along (fun o ho => isOp_tx (chk_ops (chk_done hc) o ho)) (com_sort hc) (rig_keeps hc hr)⟩
theorem opAt_take {h : List Op3} {n k : Nat} (hk : k < n) : opAt (h.take n) k = opAt h k := by simp [opAt, List.getD, hk]
theorem endBy_take {h : List Op3} {n i : Nat} (hi : i ≤ n) (t : Int) : endBy (h.take n) t i = endBy h t i := by
  unfold endBy; rw [List.take_take, Nat.min_eq_left hi]
theorem fromTo_take {h : List Op3} {n i : Nat} (hi : i ≤ n) (x : Int) : ∀ {k : Nat}, k ≤ n → fromTo (h.take n) x i k = fromTo h x i k := by
  intro k
  induction k with
  | zero => intro _; rfl
  | succ k ih =>
    intro hk
    rw [fromTo, fromTo, opAt_take (show k < n by omega), endBy_take hi, ih (by omega)]
theorem fromI_take {h : List Op3} {n i : Nat} (hi : i < n) : fromI (h.take n) i = fromI h i := by
  unfold fromI; rw [opAt_take hi, fromTo_take (by omega) _ (by omega)]
theorem openB_take {h : List Op3} {n i : Nat} (hi : i < n) (what : Int) : openB (h.take n) i what = openB h i what := by
  rw [Bool.eq_iff_iff, openB_iff, openB_iff, opAt_take hi]
  constructor
  · rintro ⟨m, m1, m2⟩
    rw [opAt_take (show m < n by omega), endBy_take (by omega)] at m2
    exact ⟨m, m1, m2⟩
  · rintro ⟨m, m1, m2⟩
    refine ⟨m, m1, ?_⟩
    rw [opAt_take (show m < n by omega), endBy_take (by omega)]
    exact m2
/-- A beginning is no worse. -/
theorem cau_take {h : List Op3} (n : Nat) (hs : cauB h = true) : cauB (h.take n) = true := all_at.2 fun i hi => by
  have hl : i < n ∧ i < h.length := by rw [List.length_take] at hi; omega
  have h1 := all_at.1 hs i hl.2
  unfold cauAt at h1 ⊢
  rw [opAt_take hl.1, fromI_take hl.1, endBy_take (by omega)]
  exact h1
theorem str_take {h : List Op3} (n : Nat) (hs : strB h = true) : strB (h.take n) = true := all_at.2 fun i hi => by
  have hl : i < n ∧ i < h.length := by rw [List.length_take] at hi; omega
  have h1 := all_at.1 hs i hl.2
  unfold strAt at h1 ⊢
  rw [opAt_take hl.1, openB_take hl.1]
  exact h1
theorem rig_take {h : List Op3} (n : Nat) (hs : rigB h = true) : rigB (h.take n) = true := all_at.2 fun i hi => by
  have hl : i < n ∧ i < h.length := by rw [List.length_take] at hi; omega
  have h1 := all_at.1 hs i hl.2
  unfold rigAt at h1 ⊢
  rw [opAt_take hl.1, openB_take hl.1, openB_take hl.1]
  exact h1
end Go.Proofs.YtjcaekhkeobhpahDoor
