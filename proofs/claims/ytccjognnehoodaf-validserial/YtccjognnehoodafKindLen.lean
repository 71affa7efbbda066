/-
  PROVED HERE: plain facts, with no word of the program: how long the lists of a run (chapters 11 to 14, as KindPlain has them) can be, and which items a deal writes.
  Conditions: none.
-/
import Derived.Test.YtccjognnehoodafValidPlain
import Derived.Test.YtccjognnehoodafKindEnds
namespace Go.Proofs.Ytccjognnehoodaf

theorem kst_len (kind : Int) (okF : Kst → Int → Dl → Bool) (l : List Op3) : ∀ k, (∀ t, ((runK kind okF l k).of t).seen.length ≤ k ∧ ((runK kind okF l k).of t).wrote.length ≤ k) ∧ (runK kind okF l k).looks.length ≤ k := by
  intro k
  induction k with
  | zero => exact ⟨fun t => ⟨Nat.le_refl _, Nat.le_refl _⟩, Nat.le_refl _⟩
  | succ k ih =>
    obtain ⟨h1, h2⟩ := ih
    have hn : ∀ t, (nowK (runK kind okF l k) k t).seen.length ≤ k ∧ (nowK (runK kind okF l k) k t).wrote.length ≤ k := fun t => by
      unfold nowK
      split
      · exact h1 t
      · exact ⟨Nat.zero_le _, Nat.zero_le _⟩
    show (∀ t, ((stepK kind okF (runK kind okF l k) k (opAt l k)).of t).seen.length ≤ k + 1 ∧ ((stepK kind okF (runK kind okF l k) k (opAt l k)).of t).wrote.length ≤ k + 1) ∧ (stepK kind okF (runK kind okF l k) k (opAt l k)).looks.length ≤ k + 1
    generalize runK kind okF l k = s at *
    have hput : ∀ (r : Dl) (u : Int), (r.seen.length ≤ k + 1 ∧ r.wrote.length ≤ k + 1) → ∀ t, (setF s.of u r t).seen.length ≤ k + 1 ∧ (setF s.of u r t).wrote.length ≤ k + 1 := fun r u hr t => by
      unfold setF
      split
      · exact hr
      · have := h1 t; omega
    have hnt := hn (opAt l k).1
    unfold stepK
    split
    · refine ⟨hput _ _ ⟨by simp; omega, by show (nowK s k _).wrote.length ≤ _; omega⟩, ?_⟩
      show (if _ then _ else _ : List Op3).length ≤ _
      split
      · simp; omega
      · omega
    · split
      · exact ⟨hput _ _ ⟨by show (nowK s k _).seen.length ≤ _; omega, by simp; omega⟩, by show s.looks.length ≤ _; omega⟩
      · split
        · split
          · exact ⟨hput _ _ ⟨by show (nowK s k _).seen.length ≤ _; omega, by show (nowK s k _).wrote.length ≤ _; omega⟩, by show s.looks.length ≤ _; omega⟩
          · exact ⟨hput _ _ ⟨by omega, by omega⟩, by show s.looks.length ≤ _; omega⟩
        · exact ⟨hput _ _ ⟨by omega, by omega⟩, by show s.looks.length ≤ _; omega⟩
theorem looks_none (kind : Int) (okF : Kst → Int → Dl → Bool) (l : List Op3) (h4 : kind ≠ 4) : ∀ k, (runK kind okF l k).looks = [] := by
  intro k
  induction k with
  | zero => rfl
  | succ k ih =>
    show (stepK kind okF (runK kind okF l k) k (opAt l k)).looks = []
    unfold stepK
    split
    · show (if _ then _ else _ : List Op3) = _
      rw [if_neg (fun h => h4 h.1)]
      exact ih
    · split
      · exact ih
      · split
        · split
          · exact ih
          · exact ih
        · exact ih
theorem kst_items (kind : Int) (okF : Kst → Int → Dl → Bool) {l : List Op3} (hop : ∀ o ∈ l, isOpB o = true) : ∀ k, k ≤ l.length → ∀ t, ∀ x ∈ ((runK kind okF l k).of t).wrote, 1 ≤ x ∧ x ≤ 6 := by
  intro k
  induction k with
  | zero => intro _ t x hx; cases hx
  | succ k ih =>
    intro hk
    have h1 := ih (by omega)
    have hn : ∀ t, ∀ x ∈ (nowK (runK kind okF l k) k t).wrote, 1 ≤ x ∧ x ≤ 6 := fun t x hx => by
      unfold nowK at hx
      split at hx
      · exact h1 t x hx
      · cases hx
    have ho := hop _ (opAt_mem (show k < l.length by omega))
    show ∀ t, ∀ x ∈ ((stepK kind okF (runK kind okF l k) k (opAt l k)).of t).wrote, 1 ≤ x ∧ x ≤ 6
    generalize runK kind okF l k = s at *
    have hput : ∀ (r : Dl) (u : Int), (∀ x ∈ r.wrote, 1 ≤ x ∧ x ≤ 6) → ∀ t, ∀ x ∈ (setF s.of u r t).wrote, 1 ≤ x ∧ x ≤ 6 := fun r u hr t x hx => by
      unfold setF at hx
      split at hx
      · exact hr x hx
      · exact h1 t x hx
    have hnt := hn (opAt l k).1
    unfold stepK
    split
    · exact hput _ _ hnt
    · split
      · rename_i h2
        refine hput _ _ fun x hx => ?_
        rcases List.mem_append.1 hx with hx | hx
        · exact hnt x hx
        · rw [List.mem_singleton.1 hx]
          have h5 := isOp_pos ho (.inr h2)
          simp only [isOpB, endsB, Bool.and_eq_true] at ho
          have h6 := ho.2
          rw [h2] at h6
          simp at h6
          omega
      · split
        · split
          · exact hput _ _ hnt
          · exact hput _ _ hnt
        · exact hput _ _ hnt
theorem kst_six (kind : Int) (okF : Kst → Int → Dl → Bool) {l : List Op3} (hc : (chk l).2 = 0) : (runK kind okF l l.length).done.length ≤ 6 := by
  have h := run_kOk kind okF hc l.length (Nat.le_refl _)
  exact six_len h.once fun x hx => ⟨(h.comm x hx).2.1, (h.comm x hx).2.2.1⟩
end Go.Proofs.Ytccjognnehoodaf
