/-
  PROVED HERE: plain facts, with no word of the program: the pairs of ops at odds of which the earlier one's deal has not ended by the later one; what goes wrong in a history is what these pairs say, and the first op that goes wrong is the least later one among them.
  Conditions: the history is right.
-/
import Derived.Test.YtjcaekhkeobhpahDoorIllsPlain
namespace Go.Proofs.YtjcaekhkeobhpahDoor

/-- Does a deal end from a place on, ahead of another one? -/
def endsIn (l : List Op3) (i j : Nat) (t : Int) : Bool := ((l.drop i).take (j - i)).any fun o => o.1 == t && endsB o.2.1
def goneE (l : List Op3) (e : Edge2) : Bool := endsIn l e.1.toNat e.2.toNat (opAt l e.1.toNat).1
def openL (l : List Op3) : List Edge2 := (pairsL l).filter fun e => !goneE l e
def kindE (l : List Op3) (a b : Int) (e : Edge2) : Bool := (opAt l e.1.toNat).2.1 == a && (opAt l e.2.toNat).2.1 == b
def lostE (l : List Op3) (e : Edge2) : Bool :=
  (opAt l e.1.toNat).2.1 == 1 && ((l.drop (e.2.toNat + 1)).contains ((opAt l e.1.toNat).1, 2, (opAt l e.1.toNat).2.2) && (l.drop (e.2.toNat + 1)).contains ((opAt l e.1.toNat).1, 3, 0))
def leastE (n : Int) (es : List Edge2) : Int := es.foldl (fun m e => if e.2 < m then e.2 else m) n
theorem pairsL_len2 {l : List Op3} (hl : l.length ≤ 40) : (openL l).length ≤ 1600 := Nat.le_trans (List.length_filter_le ..) (pairsL_len l hl)
theorem endsIn_iff {l : List Op3} {i j : Nat} {t : Int} (hij : i ≤ j) (hj : j ≤ l.length) : endsIn l i j t = true ↔ ∃ m, i ≤ m ∧ m < j ∧ (opAt l m).1 = t ∧ endsB (opAt l m).2.1 = true := by
  unfold endsIn
  rw [List.any_eq_true]
  constructor
  · rintro ⟨o, ho, h⟩
    obtain ⟨m, hm, rfl⟩ := List.mem_iff_getElem.1 ho
    rw [List.length_take, List.length_drop] at hm
    rw [Bool.and_eq_true, beq_iff_eq, List.getElem_take, List.getElem_drop] at h
    refine ⟨i + m, by omega, by omega, ?_⟩
    rw [opAt_get (show i + m < l.length by omega)]
    exact h
  · rintro ⟨m, h1, h2, h3, h4⟩
    refine ⟨opAt l m, ?_, by rw [Bool.and_eq_true, beq_iff_eq]; exact ⟨h3, h4⟩⟩
    refine List.mem_iff_getElem.2 ⟨m - i, by rw [List.length_take, List.length_drop]; omega, ?_⟩
    rw [List.getElem_take, List.getElem_drop, opAt_get (show m < l.length by omega)]
    congr 1
    omega
theorem endsIn_by {l : List Op3} (hc : (chk l).2 = 0) {i j : Nat} (hij : i < j) (hj : j < l.length) : endsIn l i j (opAt l i).1 = false ↔ endBy l (opAt l i).1 j = 0 := by
  obtain ⟨_, hop, hcalm⟩ := (chk_iff l).1 hc
  constructor
  · intro h
    by_cases h0 : endBy l (opAt l i).1 j = 0
    · exact h0
    · obtain ⟨k, k1, k2, k3, _⟩ := endBy_some _ (Nat.le_of_lt hj) h0
      have hem : endsB (opAt l k).2.1 = true := by
        rw [isOp_ends (hop _ (opAt_mem (show k < l.length by omega)))]
        simpa using k3
      rcases Nat.lt_or_ge k i with e | e
      · exact absurd k2 (calm_two hcalm e (by omega) hem)
      · have : endsIn l i j (opAt l i).1 = true := (endsIn_iff (Nat.le_of_lt hij) (Nat.le_of_lt hj)).2 ⟨k, e, k1, k2, hem⟩
        rw [h] at this
        cases this
  · intro h
    cases hx : endsIn l i j (opAt l i).1 with
    | false => rfl
    | true =>
      obtain ⟨m, h1, h2, h3, h4⟩ := (endsIn_iff (Nat.le_of_lt hij) (Nat.le_of_lt hj)).1 hx
      have h5 : 3 ≤ (opAt l m).2.1 := by
        rw [isOp_ends (hop _ (opAt_mem (show m < l.length by omega)))] at h4
        simpa using h4
      have := endBy_at hcalm hop (Nat.le_of_lt hj) h2 h3 h5
      rw [h] at this
      omega
theorem mem_open {l : List Op3} (hc : (chk l).2 = 0) {e : Edge2} : e ∈ openL l ↔ ∃ i j : Nat, i < j ∧ j < l.length ∧ oddB (opAt l i) (opAt l j) = true ∧ endBy l (opAt l i).1 j = 0 ∧ e = ((i : Int), (j : Int)) := by
  unfold openL
  rw [List.mem_filter, mem_pairs]
  constructor
  · rintro ⟨⟨i, j, h1, h2, h3, rfl⟩, h4⟩
    refine ⟨i, j, h1, h2, h3, (endsIn_by hc h1 h2).1 ?_, rfl⟩
    simpa [goneE] using h4
  · rintro ⟨i, j, h1, h2, h3, h4, rfl⟩
    refine ⟨⟨i, j, h1, h2, h3, rfl⟩, ?_⟩
    have := (endsIn_by hc h1 h2).2 h4
    simpa [goneE] using this
theorem odd_iff {o p : Op3} : oddB o p = true ↔ o.1 ≠ p.1 ∧ o.2.2 = p.2.2 ∧ (o.2.1 = 2 ∨ p.2.1 = 2) := by
  simp [oddB]
theorem any_open {l : List Op3} (hc : (chk l).2 = 0) {p : Edge2 → Bool} : (openL l).any p = true ↔ ∃ i j : Nat, i < j ∧ j < l.length ∧ oddB (opAt l i) (opAt l j) = true ∧ endBy l (opAt l i).1 j = 0 ∧ p ((i : Int), (j : Int)) = true := by
  rw [List.any_eq_true]
  constructor
  · rintro ⟨e, he, hp⟩
    obtain ⟨i, j, h1, h2, h3, h4, rfl⟩ := (mem_open hc).1 he
    exact ⟨i, j, h1, h2, h3, h4, hp⟩
  · rintro ⟨i, j, h1, h2, h3, h4, hp⟩
    exact ⟨_, (mem_open hc).2 ⟨i, j, h1, h2, h3, h4, rfl⟩, hp⟩
theorem kind_any {l : List Op3} (hc : (chk l).2 = 0) {a b : Int} (hab : a = 2 ∨ b = 2) : (openL l).any (kindE l a b) = anyTo (fun i => (opAt l i).2.1 == b && openB l i a) l.length := by
  rw [Bool.eq_iff_iff, any_open hc, anyTo_iff]
  constructor
  · rintro ⟨i, j, h1, h2, h3, h4, h5⟩
    simp only [kindE, Int.toNat_natCast, Bool.and_eq_true, beq_iff_eq] at h5
    obtain ⟨o1, o2, _⟩ := odd_iff.1 h3
    refine ⟨j, h2, ?_⟩
    rw [Bool.and_eq_true, beq_iff_eq]
    exact ⟨h5.2, openB_iff.2 ⟨i, h1, h5.1, o2, o1, h4⟩⟩
  · rintro ⟨j, hj, h⟩
    rw [Bool.and_eq_true, beq_iff_eq] at h
    obtain ⟨i, h1, h2, h3, h4, h5⟩ := openB_iff.1 h.2
    refine ⟨i, j, h1, hj, odd_iff.2 ⟨h4, h3, ?_⟩, h5, ?_⟩
    · rw [h2, h.1]; exact hab
    · simp only [kindE, Int.toNat_natCast, Bool.and_eq_true, beq_iff_eq]
      exact ⟨h2, h.1⟩
theorem mem_dropAt {l : List Op3} {n : Nat} {o : Op3} : o ∈ l.drop n ↔ ∃ m, n ≤ m ∧ m < l.length ∧ opAt l m = o := by
  constructor
  · intro h
    obtain ⟨m, hm, rfl⟩ := List.mem_iff_getElem.1 h
    rw [List.length_drop] at hm
    refine ⟨n + m, by omega, by omega, ?_⟩
    rw [List.getElem_drop, opAt_get (show n + m < l.length by omega)]
  · rintro ⟨m, h1, h2, rfl⟩
    refine List.mem_iff_getElem.2 ⟨m - n, by rw [List.length_drop]; omega, ?_⟩
    rw [List.getElem_drop, opAt_get h2]
    congr 1
    omega
/-- A Write that is written over is lost. -/
theorem lost_any {l : List Op3} (hc : (chk l).2 = 0) : (openL l).any (lostE l) = lostI l l.length := by
  obtain ⟨_, hop, hcalm⟩ := (chk_iff l).1 hc
  rw [Bool.eq_iff_iff, any_open hc]
  constructor
  · rintro ⟨i, k, h1, h2, h3, h4, h5⟩
    simp only [lostE, Int.toNat_natCast, Bool.and_eq_true, beq_iff_eq, List.contains_iff_mem] at h5
    obtain ⟨a1, a2, a3⟩ := h5
    obtain ⟨o1, o2, o3⟩ := odd_iff.1 h3
    obtain ⟨j, b1, b2, b3⟩ := mem_dropAt.1 a2
    obtain ⟨m, c1, c2, c3⟩ := mem_dropAt.1 a3
    have hend : endOf l (opAt l i).1 = 3 := by
      have := endBy_at hcalm hop (Nat.le_refl _) c2 (by rw [c3] : (opAt l m).1 = (opAt l i).1) (by rw [c3]; exact (by decide : (3 : Int) ≤ 3))
      rw [c3] at this
      unfold endBy at this
      rw [List.take_length] at this
      exact this
    refine anyTo_iff.2 ⟨i, by omega, anyTo_iff.2 ⟨k, h2, ?_⟩⟩
    rw [Bool.and_eq_true, decide_eq_true_eq]
    refine ⟨h1, anyTo_iff.2 ⟨j, b2, ?_⟩⟩
    rw [Bool.and_eq_true, decide_eq_true_eq]
    refine ⟨by omega, ?_⟩
    unfold lostB
    simp only [Bool.and_eq_true, beq_iff_eq, bne_iff_ne]
    have hw : (opAt l k).2.1 = 2 := by
      rcases o3 with e | e
      · rw [a1] at e; cases e
      · exact e
    exact ⟨a1, hw, by rw [b3], by rw [b3], o1, o2, by rw [b3], hend⟩
  · intro hl
    obtain ⟨i, hi, h1⟩ := anyTo_iff.1 hl
    obtain ⟨k, hk, h2⟩ := anyTo_iff.1 h1
    rw [Bool.and_eq_true, decide_eq_true_eq] at h2
    obtain ⟨j, hj, h3⟩ := anyTo_iff.1 h2.2
    rw [Bool.and_eq_true, decide_eq_true_eq] at h3
    have h4 := h3.2
    unfold lostB at h4
    simp only [Bool.and_eq_true, beq_iff_eq, bne_iff_ne] at h4
    obtain ⟨a1, a2, a3, a4, a5, a6, a7, a8⟩ := h4
    have hnone : ∀ m, m < j → ¬ ((opAt l m).1 = (opAt l i).1 ∧ endsB (opAt l m).2.1 = true) := fun m hm h =>
      calm_two hcalm hm hj h.2 (by rw [h.1, a4])
    have h0 : endBy l (opAt l i).1 k = 0 := by
      by_cases h0 : endBy l (opAt l i).1 k = 0
      · exact h0
      · obtain ⟨m, m1, m2, m3, _⟩ := endBy_some _ (Nat.le_of_lt hk) h0
        have hem : endsB (opAt l m).2.1 = true := by
          rw [isOp_ends (hop _ (opAt_mem (show m < l.length by omega)))]
          simpa using m3
        exact absurd ⟨m2, hem⟩ (hnone m (by omega))
    refine ⟨i, k, h2.1, hk, odd_iff.2 ⟨a5, a6, .inr a2⟩, h0, ?_⟩
    simp only [lostE, Int.toNat_natCast, Bool.and_eq_true, beq_iff_eq, List.contains_iff_mem]
    refine ⟨a1, mem_dropAt.2 ⟨j, by omega, hj, ?_⟩, ?_⟩
    · obtain ⟨⟨t, a, x⟩, ho⟩ : ∃ o : Op3, opAt l j = o := ⟨_, rfl⟩
      rw [ho] at a3 a4 a7 ⊢
      simp only at a3 a4 a7
      rw [a3, a4, a7]
    · have he : endBy l (opAt l i).1 l.length = 3 := by unfold endBy; rw [List.take_length]; exact a8
      obtain ⟨m, m1, m2, m3, m4⟩ := endBy_some _ (Nat.le_refl _) (show endBy l (opAt l i).1 l.length ≠ 0 by rw [he]; decide)
      rw [he] at m4
      have hem : endsB (opAt l m).2.1 = true := by rw [m4]; rfl
      have hmk : ¬ m < j := fun h => hnone m h ⟨m2, hem⟩
      refine mem_dropAt.2 ⟨m, by omega, m1, ?_⟩
      have hz := hop _ (opAt_mem m1)
      obtain ⟨⟨t, a, x⟩, ho⟩ : ∃ o : Op3, opAt l m = o := ⟨_, rfl⟩
      rw [ho] at m2 m4 hz ⊢
      simp only at m2 m4
      rcases isOp_kindsI hz with e | e | ⟨_, e⟩
      · simp only at e; omega
      · simp only at e; omega
      · simp only at e; rw [m2, m4, e]
theorem isOp_itemI {o : Op3} (h : isOpB o = true) (h2 : o.2.1 ≤ 2) : 1 ≤ o.2.2 := by
  have h3 : endsB o.2.1 = false := by
    unfold endsB
    rw [Bool.or_eq_false_iff, beq_eq_false_iff_ne, beq_eq_false_iff_ne]
    omega
  unfold isOpB at h
  simp [h3] at h
  omega
/-- An op goes wrong just if it is the later one of such a pair. -/
theorem illAt_open {l : List Op3} (hc : (chk l).2 = 0) {j : Nat} (hj : j < l.length) : illAt l j = true ↔ ∃ i, i < j ∧ ((i : Int), (j : Int)) ∈ openL l := by
  obtain ⟨_, hop, hcalm⟩ := (chk_iff l).1 hc
  unfold illAt
  constructor
  · intro h
    simp only [Bool.and_eq_true, Bool.or_eq_true, decide_eq_true_eq, beq_iff_eq] at h
    rcases h.2 with h1 | ⟨h0, h1⟩
    · obtain ⟨i, a1, a2, a3, a4, a5⟩ := openB_iff.1 h1
      exact ⟨i, a1, (mem_open hc).2 ⟨i, j, a1, hj, odd_iff.2 ⟨a4, a3, .inl a2⟩, a5, rfl⟩⟩
    · obtain ⟨i, a1, a2, a3, a4, a5⟩ := openB_iff.1 h1
      exact ⟨i, a1, (mem_open hc).2 ⟨i, j, a1, hj, odd_iff.2 ⟨a4, a3, .inr h0⟩, a5, rfl⟩⟩
  · rintro ⟨i, hi, h⟩
    obtain ⟨i', j', b1, b2, b3, b4, b5⟩ := (mem_open hc).1 h
    obtain rfl : i = i' := by have := congrArg Prod.fst b5; simp only at this; omega
    obtain rfl : j = j' := by have := congrArg Prod.snd b5; simp only at this; omega
    obtain ⟨o1, o2, o3⟩ := odd_iff.1 b3
    have ki := isOp_kindsI (hop _ (opAt_mem (show i < l.length by omega)))
    have kj := isOp_kindsI (hop _ (opAt_mem hj))
    have zi : (opAt l i).2.1 ≤ 2 → 1 ≤ (opAt l i).2.2 := isOp_itemI (hop _ (opAt_mem (show i < l.length by omega)))
    have zj : (opAt l j).2.1 ≤ 2 → 1 ≤ (opAt l j).2.2 := isOp_itemI (hop _ (opAt_mem hj))
    simp only [Bool.and_eq_true, Bool.or_eq_true, decide_eq_true_eq, beq_iff_eq]
    rcases o3 with e | e
    · have h1 := zi (by omega)
      refine ⟨?_, .inl (openB_iff.2 ⟨i, hi, e, o2, o1, b4⟩)⟩
      rcases kj with k | k | ⟨_, k⟩ <;> omega
    · have h1 := zj (by omega)
      refine ⟨by omega, ?_⟩
      rcases ki with k | k | ⟨_, k⟩
      · exact .inr ⟨e, openB_iff.2 ⟨i, hi, k, o2, o1, b4⟩⟩
      · exact .inl (openB_iff.2 ⟨i, hi, k, o2, o1, b4⟩)
      · omega
theorem least_spec (n : Int) (es : List Edge2) : (leastE n es = n ∨ ∃ e ∈ es, leastE n es = e.2) ∧ leastE n es ≤ n ∧ ∀ e ∈ es, leastE n es ≤ e.2 := by
  induction es generalizing n with
  | nil => exact ⟨.inl rfl, Int.le_refl _, fun e he => by cases he⟩
  | cons e r ih =>
    have he : leastE n (e :: r) = leastE (if e.2 < n then e.2 else n) r := rfl
    rw [he]
    obtain ⟨h1, h2, h3⟩ := ih (if e.2 < n then e.2 else n)
    have hm : (if e.2 < n then e.2 else n) ≤ n ∧ (if e.2 < n then e.2 else n) ≤ e.2 := by split <;> omega
    refine ⟨?_, by omega, fun x hx => ?_⟩
    · rcases h1 with h1 | ⟨x, hx, h1⟩
      · rw [h1]
        split
        · exact .inr ⟨e, List.mem_cons_self .., rfl⟩
        · exact .inl rfl
      · exact .inr ⟨x, List.mem_cons_of_mem _ hx, h1⟩
    · rcases List.mem_cons.1 hx with rfl | hx
      · omega
      · exact h3 x hx
theorem first_open {l : List Op3} (hc : (chk l).2 = 0) : (openL l = [] → firstTo l l.length = -1) ∧ (openL l ≠ [] → firstTo l l.length = leastE l.length (openL l)) := by
  constructor
  · intro h0
    rcases first_spec l l.length with ⟨h1, _⟩ | ⟨k, _, hk, h3, _⟩
    · exact h1
    · obtain ⟨i, _, hm⟩ := (illAt_open hc hk).1 h3
      rw [h0] at hm
      cases hm
  · intro h0
    obtain ⟨e0, he0⟩ := List.exists_mem_of_ne_nil _ h0
    obtain ⟨hl1, hl2, hl3⟩ := least_spec l.length (openL l)
    have all : ∀ e ∈ openL l, ∃ j : Nat, e.2 = (j : Int) ∧ j < l.length ∧ illAt l j = true := fun e he => by
      obtain ⟨i, j, b1, b2, b3, b4, rfl⟩ := (mem_open hc).1 he
      exact ⟨j, rfl, b2, (illAt_open hc b2).2 ⟨i, b1, he⟩⟩
    rcases first_spec l l.length with ⟨_, h2⟩ | ⟨k, h1, hk, h3, h4⟩
    · obtain ⟨j, _, hj, hi⟩ := all e0 he0
      rw [h2 j hj] at hi
      cases hi
    · rw [h1]
      obtain ⟨i, _, hm⟩ := (illAt_open hc hk).1 h3
      have hle := hl3 _ hm
      simp only at hle
      rcases hl1 with e | ⟨x, hx, e⟩
      · rw [e] at hle; omega
      · obtain ⟨j, j1, j2, j3⟩ := all x hx
        rw [e, j1]
        rcases Nat.lt_or_ge j k with q | q
        · rw [h4 j q] at j3; cases j3
        · rw [e, j1] at hle; omega
end Go.Proofs.YtjcaekhkeobhpahDoor
