/-
  PROVED HERE: plain facts, with no word of the program: what is always so of a run in which deals see what was done (KindPlain), op by op, of whatever kind, whoever may commit.
  Conditions: none.
  (Of these, what the claim wants: the rest was left out.)
-/
import Derived.Test.YtmgadiopjofegaiKindPlain
namespace Go.Proofs.Ytmgadiopjofegai

theorem opAt_at {d : List Op3} {i : Nat} (h : i < d.length) : opAt d i = d[i] := by simp [opAt, List.getD, List.getElem?_eq_getElem h]
/-- Who is done does nothing more. -/
theorem KOk.free {l : List Op3} {k : Nat} {s : Kst} (h : KOk l k s) (hc : Calm l) (hk : k < l.length) : (opAt l k).1 ∉ s.done := fun hm => by
  obtain ⟨_, _, _, h4, h5, h6⟩ := h.comm _ hm
  have hij : (s.of (opAt l k).1).ended.toNat < k := by omega
  have h1 := List.pairwise_iff_getElem.1 hc _ k (by omega) hk hij
  rw [← opAt_at (by omega), ← opAt_at hk] at h1
  refine h1 ?_
  rw [h6]
  exact ⟨rfl, rfl⟩
theorem exp_read (t : Int) (last : Int → Int) (own : List Op3) (o : Op3) (ho : o.2.1 = 1) : expK t last (own ++ [o]) = ((expK t last own).1 ++ [(t, o.2.2, if inB (expK t last own).2 o.2.2 = true then t else last o.2.2)], (expK t last own).2) := by
  rw [expK_snoc]; unfold expStep; rw [if_pos ho]
theorem exp_write (t : Int) (last : Int → Int) (own : List Op3) (o : Op3) (ho : o.2.1 = 2) : expK t last (own ++ [o]) = ((expK t last own).1, (expK t last own).2 ++ [o.2.2]) := by
  rw [expK_snoc]; unfold expStep; rw [if_neg (by omega), if_pos ho]
theorem exp_end (t : Int) (last : Int → Int) (own : List Op3) (o : Op3) (h1 : o.2.1 ≠ 1) (h2 : o.2.1 ≠ 2) : expK t last (own ++ [o]) = expK t last own := by
  rw [expK_snoc]; unfold expStep; rw [if_neg h1, if_neg h2]
/-- A step keeps it. -/
theorem KOk.next {kind : Int} {okF : Kst → Int → Dl → Bool} {l : List Op3} {k : Nat} {s : Kst} (h : KOk l k s) (hc : Calm l) (hop : ∀ o ∈ l, isOpB o = true) (hk : k < l.length)
    (hfrom : ∀ t item, fromK kind s k (nowK s k t) t item = t → t ∉ s.done → 1 ≤ t → inB (nowK s k t).wrote item = true) : KOk l (k + 1) (stepK kind okF s k (opAt l k)) := by
  have hnd := h.free hc hk
  have hmem : opAt l k ∈ l := by rw [opAt_at hk]; exact List.getElem_mem hk
  have hisop := hop _ hmem
  have htx : 1 ≤ (opAt l k).1 ∧ (opAt l k).1 ≤ 6 := by
    have := hisop
    unfold isOpB at this
    simp at this
    omega
  obtain ⟨n1, n2, n3, n4⟩ := h.now (opAt l k).1
  have hend := n4 hnd
  have hown : ofL (l.take (k + 1)) (opAt l k).1 = ofL (l.take k) (opAt l k).1 ++ [opAt l k] := by rw [of_take hk, if_pos rfl]
  unfold stepK
  split
  · rename_i ho
    refine h.step hk _ rfl _ _ _ hnd (fun last hl => ?_) (fun e he => ?_) n3 (Or.inl ⟨rfl, hend⟩)
    · have hl' := n1 last fun e he hne => hl e (List.mem_append_left _ he) hne
      rw [hown, exp_read _ _ _ _ ho, ← hl']
      dsimp only
      have hlast := hl _ (List.mem_append_right _ (List.mem_singleton.2 rfl))
      dsimp only at hlast
      by_cases hw : inB (nowK s k (opAt l k).1).wrote (opAt l k).2.2 = true
      · rw [if_pos hw]
        unfold fromK
        rw [if_pos hw]
      · rw [if_neg hw]
        have hne : fromK kind s k (nowK s k (opAt l k).1) (opAt l k).1 (opAt l k).2.2 ≠ (opAt l k).1 := fun e => hw (hfrom _ _ e hnd htx.1)
        rw [hlast hne]
    · rcases List.mem_append.1 he with he | he
      · exact n2 e he
      · rw [List.mem_singleton.1 he]
  · rename_i ho1
    split
    · rename_i ho
      refine h.step hk _ rfl _ _ _ hnd (fun last hl => ?_) n2 n3 (Or.inl ⟨rfl, hend⟩)
      rw [hown, exp_write _ _ _ _ ho, ← n1 last hl]
    · rename_i ho2
      have hstay : ∀ last : Int → Int, (∀ e ∈ (nowK s k (opAt l k).1).seen, e.2.2 ≠ (opAt l k).1 → e.2.2 = last e.2.1) → ((nowK s k (opAt l k).1).seen, (nowK s k (opAt l k).1).wrote) = expK (opAt l k).1 last (ofL (l.take (k + 1)) (opAt l k).1) := fun last hl => by
        rw [hown, exp_end _ _ _ _ ho1 ho2]
        exact n1 last hl
      split
      · rename_i ho3
        split
        · refine h.step hk _ rfl _ _ _ hnd hstay n2 n3 (Or.inr ⟨rfl, rfl, ?_, htx⟩)
          rcases isOp_kinds hisop with e | e | ⟨_, e⟩
          · omega
          · omega
          · exact Prod.ext rfl (Prod.ext ho3 e)
        · exact h.step hk _ rfl _ _ _ hnd hstay n2 n3 (Or.inl ⟨rfl, hend⟩)
      · exact h.step hk _ rfl _ _ _ hnd hstay n2 n3 (Or.inl ⟨rfl, hend⟩)
end Go.Proofs.Ytmgadiopjofegai
