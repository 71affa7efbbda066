/-
  PROVED HERE: plain facts, with no word of the program: who had which item behind some grips, who leads to whom, and that of legal grips these are the edges that chapter 16 asks.
  Conditions: none.
-/
import Derived.Test.YtmgadiopjofegaiDoorTreePlain2
import Derived.Test.YtmgadiopjofegaiDoorRefTree
namespace Go.Proofs.YtmgadiopjofegaiDoor

/-- From whom to whom, behind the first k grips. -/
def ldG (l : List Grip3) : Nat → Int → Int → Bool
  | 0 => fun _ _ => false
  | k + 1 => if (gAt l k).2.2 = true then fun f t => (decide (t = (gAt l k).1) && (stG l k).had f (gAt l k).2.1) || ldG l k f t else ldG l k
theorem had_iff (l : List Grip3) (t x : Int) : ∀ k, k ≤ l.length → ((stG l k).had t x = true ↔ ∃ i, i < k ∧ LockAt l t x i) := by
  intro k
  induction k with
  | zero => intro _; constructor
            · intro h; cases h
            · rintro ⟨i, hi, _⟩; omega
  | succ k ih =>
    intro hk
    have ih := ih (by omega)
    show (stepG (stG l k) (gAt l k)).had t x = true ↔ _
    obtain ⟨⟨u, y, b⟩, hg⟩ : ∃ g, gAt l k = g := ⟨_, rfl⟩
    rw [hg]
    unfold stepG
    simp only
    have back : (∃ i, i < k ∧ LockAt l t x i) → ∃ i, i < k + 1 ∧ LockAt l t x i := fun ⟨i, h1, h2⟩ => ⟨i, by omega, h2⟩
    have fwd : (∃ i, i < k + 1 ∧ LockAt l t x i) → (∃ i, i < k ∧ LockAt l t x i) ∨ (u = t ∧ y = x ∧ b = true) := fun ⟨i, h1, h2⟩ => by
      rcases Nat.lt_or_ge i k with e | e
      · exact .inl ⟨i, e, h2⟩
      · have h3 := h2.2
        rw [show i = k by omega, hg] at h3
        injection h3 with h4 h5
        injection h5 with h5 h6
        exact .inr ⟨h4, h5, h6⟩
    by_cases hb : b = false
    · rw [if_pos hb]
      simp only
      rw [ih]
      refine ⟨back, fun h => ?_⟩
      rcases fwd h with h | ⟨_, _, h⟩
      · exact h
      · rw [hb] at h; cases h
    · have hb' : b = true := by simpa using hb
      rw [if_neg hb]
      simp only
      by_cases e1 : t = u
      · subst e1
        rw [setF_same]
        by_cases e2 : x = y
        · subst e2
          rw [setF_same]
          exact ⟨fun _ => ⟨k, by omega, by omega, by rw [hg, hb']⟩, fun _ => rfl⟩
        · rw [setF_other _ _ e2, ih]
          refine ⟨back, fun h => ?_⟩
          rcases fwd h with h | ⟨_, h, _⟩
          · exact h
          · exact absurd h.symm e2
      · rw [setF_other _ _ e1, ih]
        refine ⟨back, fun h => ?_⟩
        rcases fwd h with h | ⟨h, _, _⟩
        · exact h
        · exact absurd h.symm e1
theorem first_iff (l : List Grip3) (t : Int) : ∀ k, k ≤ l.length → ((stG l k).first t = true ↔ ∃ x i, i < k ∧ LockAt l t x i) := by
  intro k
  induction k with
  | zero => intro _; constructor
            · intro h; cases h
            · rintro ⟨x, i, hi, _⟩; omega
  | succ k ih =>
    intro hk
    have ih := ih (by omega)
    show (stepG (stG l k) (gAt l k)).first t = true ↔ _
    obtain ⟨⟨u, y, b⟩, hg⟩ : ∃ g, gAt l k = g := ⟨_, rfl⟩
    rw [hg]
    unfold stepG
    simp only
    have back : (∃ x i, i < k ∧ LockAt l t x i) → ∃ x i, i < k + 1 ∧ LockAt l t x i := fun ⟨x, i, h1, h2⟩ => ⟨x, i, by omega, h2⟩
    have fwd : (∃ x i, i < k + 1 ∧ LockAt l t x i) → (∃ x i, i < k ∧ LockAt l t x i) ∨ (u = t ∧ b = true) := fun ⟨x, i, h1, h2⟩ => by
      rcases Nat.lt_or_ge i k with e | e
      · exact .inl ⟨x, i, e, h2⟩
      · have h3 := h2.2
        rw [show i = k by omega, hg] at h3
        injection h3 with h4 h5
        injection h5 with h5 h6
        exact .inr ⟨h4, h6⟩
    by_cases hb : b = false
    · rw [if_pos hb]
      simp only
      rw [ih]
      refine ⟨back, fun h => ?_⟩
      rcases fwd h with h | ⟨_, h⟩
      · exact h
      · rw [hb] at h; cases h
    · have hb' : b = true := by simpa using hb
      rw [if_neg hb]
      simp only
      by_cases e1 : t = u
      · subst e1
        rw [setF_same]
        exact ⟨fun _ => ⟨y, k, by omega, by omega, by rw [hg, hb']⟩, fun _ => rfl⟩
      · rw [setF_other _ _ e1, ih]
        refine ⟨back, fun h => ?_⟩
        rcases fwd h with h | ⟨h, _⟩
        · exact h
        · exact absurd h.symm e1
/-- All grips up to here are legal. -/
def LegTo (up : List Int) (l : List Grip3) (k : Nat) : Prop := ∀ i, i < k → badG up l i = false
theorem LegTo.lock {up : List Int} {l : List Grip3} {k : Nat} (h : LegTo up l k) {t x : Int} {i : Nat} (hi : i < k) (hL : LockAt l t x i) : (1 ≤ t ∧ t ≤ 6) ∧ 1 ≤ x ∧ x ≤ up.length := by
  have h1 := h i hi
  unfold badG at h1
  rw [hL.2] at h1
  unfold gripE at h1
  simp only at h1
  split at h1
  · cases h1
  · omega
theorem LegTo.first {up : List Int} {l : List Grip3} {k : Nat} (h : LegTo up l k) (hk : k ≤ l.length) (hu : up.length ≤ 6) (t : Int) : (stG l k).first t = true ↔ ∃ x : Nat, x < 7 ∧ (stG l k).had t (x : Int) = true := by
  rw [first_iff l t k hk]
  constructor
  · rintro ⟨x, i, hi, hL⟩
    have h1 := (h.lock hi hL).2
    refine ⟨x.toNat, by omega, ?_⟩
    rw [show ((x.toNat : Nat) : Int) = x by omega, had_iff l t x k hk]
    exact ⟨i, hi, hL⟩
  · rintro ⟨x, _, hx⟩
    obtain ⟨i, hi, hL⟩ := (had_iff l t x k hk).1 hx
    exact ⟨x, i, hi, hL⟩
theorem ld_iff (l : List Grip3) (f t : Int) : ∀ k, k ≤ l.length → (ldG l k f t = true ↔ ∃ x i j, i < j ∧ j < k ∧ LockAt l f x i ∧ LockAt l t x j) := by
  intro k
  induction k with
  | zero => intro _; constructor
            · intro h; cases h
            · rintro ⟨x, i, j, _, hj, _⟩; omega
  | succ k ih =>
    intro hk
    have ih := ih (by omega)
    have hd := had_iff l f (gAt l k).2.1 k (by omega)
    obtain ⟨⟨u, y, b⟩, hg⟩ : ∃ g, gAt l k = g := ⟨_, rfl⟩
    unfold ldG
    rw [hg] at hd ⊢
    simp only at hd ⊢
    have back : (∃ x i j, i < j ∧ j < k ∧ LockAt l f x i ∧ LockAt l t x j) → ∃ x i j, i < j ∧ j < k + 1 ∧ LockAt l f x i ∧ LockAt l t x j := fun ⟨x, i, j, h1, h2, h3⟩ => ⟨x, i, j, h1, by omega, h3⟩
    have fwd : (∃ x i j, i < j ∧ j < k + 1 ∧ LockAt l f x i ∧ LockAt l t x j) → (∃ x i j, i < j ∧ j < k ∧ LockAt l f x i ∧ LockAt l t x j) ∨ (u = t ∧ b = true ∧ ∃ i, i < k ∧ LockAt l f y i) := fun ⟨x, i, j, h1, h2, h3, h4⟩ => by
      rcases Nat.lt_or_ge j k with e | e
      · exact .inl ⟨x, i, j, h1, e, h3, h4⟩
      · have h5 := h4.2
        rw [show j = k by omega, hg] at h5
        injection h5 with h6 h7
        injection h7 with h7 h8
        exact .inr ⟨h6, h8, i, by omega, by rw [h7]; exact h3⟩
    by_cases hb : b = true
    · rw [if_pos hb, Bool.or_eq_true, Bool.and_eq_true, decide_eq_true_eq, hd, ih]
      constructor
      · rintro (⟨h1, i, h2, h3⟩ | h)
        · exact ⟨y, i, k, h2, by omega, h3, by omega, by rw [hg, hb, h1]⟩
        · exact back h
      · intro h
        rcases fwd h with h | ⟨h1, _, h3⟩
        · exact .inr h
        · exact .inl ⟨h1.symm, h3⟩
    · rw [if_neg hb, ih]
      refine ⟨back, fun h => ?_⟩
      rcases fwd h with h | ⟨_, h, _⟩
      · exact h
      · exact absurd h hb
/-- Edges of a square of bools, row by row, the first k of its places. -/
def eTo (L : Nat → Nat → Bool) : Nat → List Edge2
  | 0 => []
  | k + 1 => if L (k / 7) (k % 7) = true then eTo L k ++ [(((k / 7 : Nat) : Int), ((k % 7 : Nat) : Int))] else eTo L k
theorem mem_eTo (L : Nat → Nat → Bool) (e : Edge2) : ∀ k, e ∈ eTo L k ↔ ∃ m, m < k ∧ L (m / 7) (m % 7) = true ∧ e = (((m / 7 : Nat) : Int), ((m % 7 : Nat) : Int)) := by
  intro k
  induction k with
  | zero => simp [eTo]
  | succ k ih =>
    unfold eTo
    split
    · rename_i h
      rw [List.mem_append, ih, List.mem_singleton]
      constructor
      · rintro (⟨m, h1, h2⟩ | h1)
        · exact ⟨m, by omega, h2⟩
        · exact ⟨k, by omega, h, h1⟩
      · rintro ⟨m, h1, h2, h3⟩
        rcases Nat.lt_or_ge m k with e1 | e1
        · exact .inl ⟨m, e1, h2, h3⟩
        · rw [show m = k by omega] at h3; exact .inr h3
    · rename_i h
      rw [ih]
      constructor
      · rintro ⟨m, h1, h2⟩; exact ⟨m, by omega, h2⟩
      · rintro ⟨m, h1, h2, h3⟩
        rcases Nat.lt_or_ge m k with e1 | e1
        · exact ⟨m, e1, h2, h3⟩
        · rw [show m = k by omega] at h2; exact absurd h2 h
theorem eTo_rise (L : Nat → Nat → Bool) : ∀ k, Rise (eTo L k) := by
  intro k
  induction k with
  | zero => exact List.Pairwise.nil
  | succ k ih =>
    unfold eTo
    split
    · unfold Rise
      rw [List.pairwise_append]
      refine ⟨ih, List.pairwise_singleton _ _, fun a ha b hb => ?_⟩
      rw [List.mem_singleton] at hb
      subst hb
      obtain ⟨m, h1, _, rfl⟩ := (mem_eTo L a k).1 ha
      unfold ltB
      simp
      omega
    · exact ih
theorem eTo_len (L : Nat → Nat → Bool) : ∀ k, (eTo L k).length ≤ k := by
  intro k
  induction k with
  | zero => exact Nat.le_refl _
  | succ k ih =>
    unfold eTo
    split
    · simp; omega
    · omega
theorem eTo_grip {up : List Int} {l : List Grip3} (h : LegTo up l l.length) : eTo (fun i k => ldG l l.length (i : Int) (k : Int)) 49 = gripL l := by
  refine rise_eq _ _ (eTo_rise _ _) (List.Pairwise.sublist List.filter_sublist allE_rise) fun e => ?_
  rw [mem_eTo]
  unfold gripL
  rw [List.mem_filter, aheadB_iff]
  constructor
  · rintro ⟨m, h1, h2, rfl⟩
    obtain ⟨x, i, j, h3, h4, h5, h6⟩ := (ld_iff l _ _ _ (Nat.le_refl _)).1 h2
    have a1 := (h.lock (by omega) h5).1
    have a2 := (h.lock h4 h6).1
    exact ⟨mem_allE a1.1 a1.2 a2.1 a2.2, x, i, j, h3, h5, h6⟩
  · rintro ⟨h0, x, i, j, h3, h5, h6⟩
    have a0 := allE_six h0
    refine ⟨e.1.toNat * 7 + e.2.toNat, by omega, ?_, ?_⟩
    · rw [show (e.1.toNat * 7 + e.2.toNat) / 7 = e.1.toNat by omega, show (e.1.toNat * 7 + e.2.toNat) % 7 = e.2.toNat by omega, show ((e.1.toNat : Nat) : Int) = e.1 by omega, show ((e.2.toNat : Nat) : Int) = e.2 by omega]
      exact (ld_iff l _ _ _ (Nat.le_refl _)).2 ⟨x, i, j, h3, h6.1, h5, h6⟩
    · rw [show (e.1.toNat * 7 + e.2.toNat) / 7 = e.1.toNat by omega, show (e.1.toNat * 7 + e.2.toNat) % 7 = e.2.toNat by omega, show ((e.1.toNat : Nat) : Int) = e.1 by omega, show ((e.2.toNat : Nat) : Int) = e.2 by omega]
end Go.Proofs.YtmgadiopjofegaiDoor
