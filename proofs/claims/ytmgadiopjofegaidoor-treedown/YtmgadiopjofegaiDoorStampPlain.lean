/-
  PROVED HERE: plain facts, with no word of the program: ops by numbers, as chapter 10 has them, as a function on lists; what is told is right if what was asked is, of two that are at odds the first one is of the lesser number, and who is aborted ends so.
  Conditions: none.
  (Of these, what the claim wants: the rest was left out.)
-/
import Derived.Test.YtmgadiopjofegaiDoorBack
import Derived.Test.YtmgadiopjofegaiDoorOddPlain
import Derived.Test.YtmgadiopjofegaiDoorStrictPlain
namespace Go.Proofs.YtmgadiopjofegaiDoor

/-- How things stand while deals ask: the greatest that read, that wrote, of each item; who is aborted; what is told; who was aborted, in order. -/
structure Stm where
  rd : Int → Int
  wr : Int → Int
  out : Int → Bool
  told : List Op3
  vict : List Int
def goneS (s : Stm) (t : Int) : Stm := { s with out := setF s.out t true, vict := s.vict ++ [t], told := s.told ++ [(t, 4, 0)] }
/-- What is always so, when the first of a list have come. -/
structure StOk (pre : List Op3) (s : Stm) : Prop where
  ops : ∀ o ∈ s.told, isOpB o = true
  calm : Calm s.told
  ends : ∀ t, s.out t = false → endedIn s.told t = true → endedIn pre t = true
  rds : ∀ o ∈ s.told, o.2.1 = 1 → o.1 ≤ s.rd o.2.2
  wrs : ∀ o ∈ s.told, o.2.1 = 2 → o.1 ≤ s.wr o.2.2
  rise : s.told.Pairwise fun a b => oddB a b = true → a.1 < b.1
  vict : ∀ v ∈ s.vict, s.out v = true ∧ 1 ≤ v ∧ v ≤ 6
  last : ∀ t, s.out t = true → ∃ q, ofL s.told t = q ++ [(t, 4, 0)]
  long : s.told.length ≤ pre.length ∧ s.vict.length ≤ pre.length
theorem calm_snoc {l : List Op3} {x : Op3} (h : Calm l) (hx : endedIn l x.1 = false) : Calm (l ++ [x]) := by
  refine List.pairwise_append.2 ⟨h, List.pairwise_singleton _ _, fun a ha b hb => ?_⟩
  rw [List.mem_singleton.1 hb]
  rintro ⟨e1, e2⟩
  have : endedIn l x.1 = true := List.any_eq_true.2 ⟨a, ha, by rw [e1, e2]; simp⟩
  rw [hx] at this
  cases this
theorem ended_snoc (l : List Op3) (x : Op3) (t : Int) : endedIn (l ++ [x]) t = (endedIn l t || (x.1 == t && endsB x.2.1)) := by
  unfold endedIn
  rw [List.any_append]
  simp
theorem of_snoc (l : List Op3) (x : Op3) (t : Int) : ofL (l ++ [x]) t = ofL l t ++ (if x.1 = t then [x] else []) := by
  unfold ofL
  rw [List.filter_append]
  congr 1
  by_cases h : x.1 = t
  · simp [h]
  · simp [h]
theorem odd_parts {a b : Op3} (h : oddB a b = true) : a.1 ≠ b.1 ∧ a.2.2 = b.2.2 ∧ (a.2.1 = 2 ∨ b.2.1 = 2) := by
  simpa [oddB] using h
theorem isOp_pos {o : Op3} (h : isOpB o = true) (hw : o.2.1 = 1 ∨ o.2.1 = 2) : 1 ≤ o.2.2 := by
  simp only [isOpB, endsB, Bool.and_eq_true] at h
  have h5 := h.2
  rcases hw with e | e <;> rw [e] at h5 <;> simp at h5 <;> omega
theorem StOk.gone {pre : List Op3} {s : Stm} {o : Op3} (h : StOk pre s) (hop : isOpB o = true) (hout : s.out o.1 = false) (hend : endedIn pre o.1 = false) : StOk (pre ++ [o]) (goneS s o.1) := by
  have hne : endedIn s.told o.1 = false := by
    cases he : endedIn s.told o.1 with
    | false => rfl
    | true => rw [h.ends _ hout he] at hend; cases hend
  have hr := isOp_range hop
  have hab : isOpB (o.1, 4, 0) = true := by simp [isOpB, endsB]; omega
  refine ⟨fun x hx => ?_, calm_snoc (x := (o.1, 4, 0)) h.calm hne, fun t ht he => ?_, fun x hx hx1 => ?_, fun x hx hx2 => ?_, ?_, fun v hv => ?_, fun t ht => ?_, ?_⟩
  · rcases List.mem_append.1 hx with hx | hx
    · exact h.ops x hx
    · rw [List.mem_singleton.1 hx]; exact hab
  · have ht' : setF s.out o.1 true t = false := ht
    have hne2 : t ≠ o.1 := fun e => by rw [e, setF_same] at ht'; cases ht'
    rw [setF_other _ _ hne2] at ht'
    have he' : endedIn (s.told ++ [(o.1, 4, 0)]) t = true := he
    rw [ended_snoc] at he'
    rcases Bool.or_eq_true_iff.1 he' with h1 | h1
    · rw [ended_snoc, h.ends t ht' h1]; rfl
    · simp at h1; exact absurd h1.1.symm hne2
  · rcases List.mem_append.1 hx with hx | hx
    · exact h.rds x hx hx1
    · rw [List.mem_singleton.1 hx] at hx1; cases hx1
  · rcases List.mem_append.1 hx with hx | hx
    · exact h.wrs x hx hx2
    · rw [List.mem_singleton.1 hx] at hx2; cases hx2
  · refine List.pairwise_append.2 ⟨h.rise, List.pairwise_singleton _ _, fun a ha b hb hodd => ?_⟩
    rw [List.mem_singleton.1 hb] at hodd
    obtain ⟨e1, e2, e3⟩ := odd_parts hodd
    rcases e3 with e3 | e3
    · have := isOp_pos (h.ops a ha) (.inr e3)
      simp at e2
      omega
    · simp at e3
  · rcases List.mem_append.1 hv with hv | hv
    · obtain ⟨h1, h2⟩ := h.vict v hv
      refine ⟨?_, h2⟩
      show setF s.out o.1 true v = true
      unfold setF
      split
      · rfl
      · exact h1
    · rw [List.mem_singleton.1 hv]; exact ⟨setF_same _ _ _, hr⟩
  · show ∃ q, ofL (s.told ++ [(o.1, 4, 0)]) t = q ++ [(t, 4, 0)]
    rw [of_snoc]
    by_cases e : o.1 = t
    · rw [if_pos e, e]; exact ⟨_, rfl⟩
    · rw [if_neg e, List.append_nil]
      have ht' : setF s.out o.1 true t = true := ht
      rw [setF_other _ _ (fun h => e h.symm)] at ht'
      exact h.last t ht'
  · have := h.long
    show (s.told ++ [_]).length ≤ (pre ++ [o]).length ∧ (s.vict ++ [_]).length ≤ (pre ++ [o]).length
    simp only [List.length_append, List.length_singleton]
    omega
end Go.Proofs.YtmgadiopjofegaiDoor
