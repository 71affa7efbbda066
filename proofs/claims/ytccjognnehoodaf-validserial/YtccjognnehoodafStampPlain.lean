/-
  PROVED HERE: plain facts, with no word of the program: ops by numbers, as chapter 10 has them, as a function on lists; what is told is right if what was asked is, of two that are at odds the first one is of the lesser number, and who is aborted ends so.
  Conditions: none.
-/
import Derived.Test.YtccjognnehoodafMgae
import Derived.Test.YtccjognnehoodafMgaf
import Derived.Test.YtccjognnehoodafStrictPlain
namespace Go.Proofs.Ytccjognnehoodaf

/-- How things stand while deals ask: the greatest that read, that wrote, of each item; who is aborted; what is told; who was aborted, in order. -/
structure Stm where
  rd : Int → Int
  wr : Int → Int
  out : Int → Bool
  told : List Op3
  vict : List Int
def stm0 : Stm := ⟨fun _ => 0, fun _ => 0, fun _ => false, [], []⟩
def lateS (s : Stm) (o : Op3) : Bool := decide (o.1 < s.wr o.2.2)
def badS (leave : Bool) (s : Stm) (o : Op3) : Bool := if o.2.1 = 1 then lateS s o else if o.2.1 = 2 then decide (o.1 < s.rd o.2.2) || (lateS s o && !leave) else false
def goneS (s : Stm) (t : Int) : Stm := { s with out := setF s.out t true, vict := s.vict ++ [t], told := s.told ++ [(t, 4, 0)] }
def maxI (a b : Int) : Int := if a < b then b else a
def stepS (leave : Bool) (s : Stm) (o : Op3) : Stm :=
  if s.out o.1 = true then s else if badS leave s o = true then goneS s o.1
  else if o.2.1 = 1 then { s with rd := setF s.rd o.2.2 (maxI (s.rd o.2.2) o.1), told := s.told ++ [o] }
  else if o.2.1 = 2 then (if lateS s o = true then s else { s with wr := setF s.wr o.2.2 o.1, told := s.told ++ [o] })
  else { s with told := s.told ++ [o] }
def stampR (leave : Bool) (l : List Op3) : Stm := l.foldl (stepS leave) stm0

/-- What is always so, when the first of a list have come. -/
structure StOk (pre : List Op3) (s : Stm) : Prop where
  ops : ∀ o ∈ s.told, isOpB o = true
  calm : Calm s.told
  ends : ∀ t, s.out t = false → endedIn s.told t = true → endedIn pre t = true
  rds : ∀ o ∈ s.told, o.2.1 = 1 → o.1 ≤ s.rd o.2.2
  wrs : ∀ o ∈ s.told, o.2.1 = 2 → o.1 ≤ s.wr o.2.2
  rise : s.told.Pairwise fun a b => oddB a b = true → a.1 < b.1
  vict : ∀ v ∈ s.vict, s.out v = true ∧ 1 ≤ v ∧ v ≤ 6
  last : ∀ t, s.out t = true → ∃ q, ofL s.told t = q ++ [(t, 4, 0)]
  long : s.told.length ≤ pre.length ∧ s.vict.length ≤ pre.length
theorem stOk0 : StOk [] stm0 := ⟨fun o h => (by cases h), List.Pairwise.nil, fun t _ h => (by cases h), fun o h => (by cases h), fun o h => (by cases h), List.Pairwise.nil, fun v h => (by cases h), fun t h => (by cases h), Nat.le_refl _, Nat.le_refl _⟩
theorem calm_snoc {l : List Op3} {x : Op3} (h : Calm l) (hx : endedIn l x.1 = false) : Calm (l ++ [x]) := by
  refine List.pairwise_append.2 ⟨h, List.pairwise_singleton _ _, fun a ha b hb => ?_⟩
  rw [List.mem_singleton.1 hb]
  rintro ⟨e1, e2⟩
  have : endedIn l x.1 = true := List.any_eq_true.2 ⟨a, ha, by rw [e1, e2]; simp⟩
  rw [hx] at this
  cases this
theorem ended_snoc (l : List Op3) (x : Op3) (t : Int) : endedIn (l ++ [x]) t = (endedIn l t || (x.1 == t && endsB x.2.1)) := by
  unfold endedIn
  rw [List.any_append]
  simp
theorem of_snoc (l : List Op3) (x : Op3) (t : Int) : ofL (l ++ [x]) t = ofL l t ++ (if x.1 = t then [x] else []) := by
  unfold ofL
  rw [List.filter_append]
  congr 1
  by_cases h : x.1 = t
  · simp [h]
  · simp [h]
theorem odd_parts {a b : Op3} (h : oddB a b = true) : a.1 ≠ b.1 ∧ a.2.2 = b.2.2 ∧ (a.2.1 = 2 ∨ b.2.1 = 2) := by
  simpa [oddB] using h
theorem isOp_kinds {o : Op3} (h : isOpB o = true) : o.2.1 = 1 ∨ o.2.1 = 2 ∨ ((o.2.1 = 3 ∨ o.2.1 = 4) ∧ o.2.2 = 0) := by
  simp only [isOpB, endsB, Bool.and_eq_true, Bool.not_eq_true', Bool.or_eq_false_iff, decide_eq_false_iff_not] at h
  obtain ⟨⟨⟨⟨h1, h2⟩, h3⟩, h4⟩, h5⟩ := h
  rcases (show o.2.1 = 1 ∨ o.2.1 = 2 ∨ o.2.1 = 3 ∨ o.2.1 = 4 by omega) with e | e | e | e
  · exact .inl e
  · exact .inr (.inl e)
  · rw [e] at h5; simp at h5; exact .inr (.inr ⟨.inl e, h5⟩)
  · rw [e] at h5; simp at h5; exact .inr (.inr ⟨.inr e, h5⟩)
theorem isOp_pos {o : Op3} (h : isOpB o = true) (hw : o.2.1 = 1 ∨ o.2.1 = 2) : 1 ≤ o.2.2 := by
  simp only [isOpB, endsB, Bool.and_eq_true] at h
  have h5 := h.2
  rcases hw with e | e <;> rw [e] at h5 <;> simp at h5 <;> omega
/-- One more that is told. -/
theorem StOk.tell {pre : List Op3} {s : Stm} {o : Op3} (h : StOk pre s) (hop : isOpB o = true) (hout : s.out o.1 = false) (hend : endedIn pre o.1 = false) (f g : Int → Int) (hf : ∀ x, s.rd x ≤ f x) (hg : ∀ x, s.wr x ≤ g x)
    (ho1 : o.2.1 = 1 → o.1 ≤ f o.2.2 ∧ ∀ a ∈ s.told, a.2.1 = 2 → a.2.2 = o.2.2 → a.1 ≤ o.1) (ho2 : o.2.1 = 2 → o.1 ≤ g o.2.2 ∧ ∀ a ∈ s.told, (a.2.1 = 1 ∨ a.2.1 = 2) → a.2.2 = o.2.2 → a.1 ≤ o.1) : StOk (pre ++ [o]) { s with rd := f, wr := g, told := s.told ++ [o] } := by
  have hne : endedIn s.told o.1 = false := by
    cases he : endedIn s.told o.1 with
    | false => rfl
    | true => rw [h.ends _ hout he] at hend; cases hend
  refine ⟨fun x hx => ?_, calm_snoc h.calm hne, fun t ht he => ?_, fun x hx hx1 => ?_, fun x hx hx2 => ?_, ?_, h.vict, fun t ht => ?_, ?_⟩
  · rcases List.mem_append.1 hx with hx | hx
    · exact h.ops x hx
    · rw [List.mem_singleton.1 hx]; exact hop
  · show endedIn (pre ++ [o]) t = true
    have he' : endedIn (s.told ++ [o]) t = true := he
    rw [ended_snoc] at he' ⊢
    rcases Bool.or_eq_true_iff.1 he' with h1 | h1
    · rw [h.ends t ht h1]; rfl
    · rw [h1]; simp
  · rcases List.mem_append.1 hx with hx | hx
    · exact Int.le_trans (h.rds x hx hx1) (hf _)
    · rw [List.mem_singleton.1 hx] at hx1 ⊢; exact (ho1 hx1).1
  · rcases List.mem_append.1 hx with hx | hx
    · exact Int.le_trans (h.wrs x hx hx2) (hg _)
    · rw [List.mem_singleton.1 hx] at hx2 ⊢; exact (ho2 hx2).1
  · refine List.pairwise_append.2 ⟨h.rise, List.pairwise_singleton _ _, fun a ha b hb hodd => ?_⟩
    rw [List.mem_singleton.1 hb] at hodd ⊢
    obtain ⟨e1, e2, e3⟩ := odd_parts hodd
    have hle : a.1 ≤ o.1 := by
      rcases isOp_kinds hop with ho | ho | ⟨ho, hi⟩
      · rcases e3 with e3 | e3
        · exact (ho1 ho).2 a ha e3 e2
        · omega
      · rcases isOp_kinds (h.ops a ha) with ha1 | ha2 | ⟨ha3, hai⟩
        · exact (ho2 ho).2 a ha (.inl ha1) e2
        · exact (ho2 ho).2 a ha (.inr ha2) e2
        · have := isOp_pos hop (.inr ho)
          omega
      · rcases e3 with e3 | e3
        · have := isOp_pos (h.ops a ha) (.inr e3)
          omega
        · omega
    omega
  · have hne2 : t ≠ o.1 := fun e => by rw [e, hout] at ht; cases ht
    obtain ⟨q, hq⟩ := h.last t ht
    refine ⟨q, ?_⟩
    show ofL (s.told ++ [o]) t = _
    rw [of_snoc, if_neg (fun e => hne2 e.symm), List.append_nil, hq]
  · have := h.long
    show (s.told ++ [o]).length ≤ (pre ++ [o]).length ∧ s.vict.length ≤ (pre ++ [o]).length
    simp only [List.length_append, List.length_singleton]
    omega
theorem StOk.skip {pre : List Op3} {s : Stm} (h : StOk pre s) (o : Op3) : StOk (pre ++ [o]) s := by
  refine ⟨h.ops, h.calm, fun t ht he => ?_, h.rds, h.wrs, h.rise, h.vict, h.last, ?_⟩
  · rw [ended_snoc, h.ends t ht he]; rfl
  · have := h.long
    rw [List.length_append]
    omega
theorem StOk.gone {pre : List Op3} {s : Stm} {o : Op3} (h : StOk pre s) (hop : isOpB o = true) (hout : s.out o.1 = false) (hend : endedIn pre o.1 = false) : StOk (pre ++ [o]) (goneS s o.1) := by
  have hne : endedIn s.told o.1 = false := by
    cases he : endedIn s.told o.1 with
    | false => rfl
    | true => rw [h.ends _ hout he] at hend; cases hend
  have hr := isOp_range hop
  have hab : isOpB (o.1, 4, 0) = true := by simp [isOpB, endsB]; omega
  refine ⟨fun x hx => ?_, calm_snoc (x := (o.1, 4, 0)) h.calm hne, fun t ht he => ?_, fun x hx hx1 => ?_, fun x hx hx2 => ?_, ?_, fun v hv => ?_, fun t ht => ?_, ?_⟩
  · rcases List.mem_append.1 hx with hx | hx
    · exact h.ops x hx
    · rw [List.mem_singleton.1 hx]; exact hab
  · have ht' : setF s.out o.1 true t = false := ht
    have hne2 : t ≠ o.1 := fun e => by rw [e, setF_same] at ht'; cases ht'
    rw [setF_other _ _ hne2] at ht'
    have he' : endedIn (s.told ++ [(o.1, 4, 0)]) t = true := he
    rw [ended_snoc] at he'
    rcases Bool.or_eq_true_iff.1 he' with h1 | h1
    · rw [ended_snoc, h.ends t ht' h1]; rfl
    · simp at h1; exact absurd h1.1.symm hne2
  · rcases List.mem_append.1 hx with hx | hx
    · exact h.rds x hx hx1
    · rw [List.mem_singleton.1 hx] at hx1; cases hx1
  · rcases List.mem_append.1 hx with hx | hx
    · exact h.wrs x hx hx2
    · rw [List.mem_singleton.1 hx] at hx2; cases hx2
  · refine List.pairwise_append.2 ⟨h.rise, List.pairwise_singleton _ _, fun a ha b hb hodd => ?_⟩
    rw [List.mem_singleton.1 hb] at hodd
    obtain ⟨e1, e2, e3⟩ := odd_parts hodd
    rcases e3 with e3 | e3
    · have := isOp_pos (h.ops a ha) (.inr e3)
      simp at e2
      omega
    · simp at e3
  · rcases List.mem_append.1 hv with hv | hv
    · obtain ⟨h1, h2⟩ := h.vict v hv
      refine ⟨?_, h2⟩
      show setF s.out o.1 true v = true
      unfold setF
      split
      · rfl
      · exact h1
    · rw [List.mem_singleton.1 hv]; exact ⟨setF_same _ _ _, hr⟩
  · show ∃ q, ofL (s.told ++ [(o.1, 4, 0)]) t = q ++ [(t, 4, 0)]
    rw [of_snoc]
    by_cases e : o.1 = t
    · rw [if_pos e, e]; exact ⟨_, rfl⟩
    · rw [if_neg e, List.append_nil]
      have ht' : setF s.out o.1 true t = true := ht
      rw [setF_other _ _ (fun h => e h.symm)] at ht'
      exact h.last t ht'
  · have := h.long
    show (s.told ++ [_]).length ≤ (pre ++ [o]).length ∧ (s.vict ++ [_]).length ≤ (pre ++ [o]).length
    simp only [List.length_append, List.length_singleton]
    omega
theorem maxI_le (a b : Int) : a ≤ maxI a b ∧ b ≤ maxI a b := by
  unfold maxI
  split <;> omega
theorem step_stamp {leave : Bool} {pre : List Op3} {s : Stm} {o : Op3} (h : StOk pre s) (hop : isOpB o = true) (hend : endedIn pre o.1 = false) : StOk (pre ++ [o]) (stepS leave s o) := by
  unfold stepS
  split
  · exact h.skip o
  · rename_i hout
    have hout' : s.out o.1 = false := by simpa using hout
    split
    · exact h.gone hop hout' hend
    · rename_i hbad
      split
      · rename_i h1
        have hl : ¬ o.1 < s.wr o.2.2 := by
          unfold badS at hbad
          rw [if_pos h1] at hbad
          simpa [lateS] using hbad
        refine h.tell hop hout' hend (setF s.rd o.2.2 (maxI (s.rd o.2.2) o.1)) s.wr (fun x => ?_) (fun x => Int.le_refl _) (fun _ => ⟨?_, fun a ha ha2 hai => ?_⟩) (fun h2 => by omega)
        · unfold setF
          split
          · rename_i e; rw [e]; exact (maxI_le _ _).1
          · exact Int.le_refl _
        · rw [setF_same]; exact (maxI_le _ _).2
        · have := h.wrs a ha ha2
          rw [hai] at this
          omega
      · rename_i h1
        split
        · rename_i h2
          split
          · exact h.skip o
          · rename_i hlate
            have hl : ¬ o.1 < s.wr o.2.2 := by simpa [lateS] using hlate
            have hr : ¬ o.1 < s.rd o.2.2 := by
              unfold badS at hbad
              rw [if_neg h1, if_pos h2] at hbad
              simp at hbad
              omega
            refine h.tell hop hout' hend s.rd (setF s.wr o.2.2 o.1) (fun x => Int.le_refl _) (fun x => ?_) (fun h3 => absurd h3 h1) (fun _ => ⟨by rw [setF_same]; exact Int.le_refl _, fun a ha ha2 hai => ?_⟩)
            · unfold setF
              split
              · rename_i e; rw [e]; omega
              · exact Int.le_refl _
            · rcases ha2 with ha2 | ha2
              · have := h.rds a ha ha2
                rw [hai] at this
                omega
              · have := h.wrs a ha ha2
                rw [hai] at this
                omega
        · rename_i h2
          exact h.tell hop hout' hend s.rd s.wr (fun x => Int.le_refl _) (fun x => Int.le_refl _) (fun h3 => absurd h3 h1) (fun h3 => absurd h3 h2)
theorem calm_ended {l : List Op3} (h : Calm l) {k : Nat} (hk : k < l.length) : endedIn (l.take k) l[k].1 = false := by
  unfold endedIn
  rw [List.any_eq_false]
  intro a ha
  have hm : l.take k ++ [l[k]] = l.take (k + 1) := by rw [List.take_succ_eq_append_getElem hk]
  have hp : (l.take k ++ [l[k]]).Pairwise fun a b => ¬ (a.1 = b.1 ∧ endsB a.2.1 = true) := by rw [hm]; exact h.sublist (List.take_sublist _ _)
  have := (List.pairwise_append.1 hp).2.2 a ha l[k] (List.mem_singleton.2 rfl)
  simpa using this
theorem stamp_ok (leave : Bool) (l : List Op3) (hop : ∀ o ∈ l, isOpB o = true) (hc : Calm l) : ∀ k, k ≤ l.length → StOk (l.take k) (stampR leave (l.take k)) := by
  intro k
  induction k with
  | zero => intro _; exact stOk0
  | succ k ih =>
    intro hk
    have h1 := ih (by omega)
    have e : stampR leave (l.take (k + 1)) = stepS leave (stampR leave (l.take k)) l[k] := by
      unfold stampR
      rw [List.take_succ_eq_append_getElem (by omega), List.foldl_append]
      rfl
    rw [e, List.take_succ_eq_append_getElem (by omega)]
    exact step_stamp h1 (hop _ (List.getElem_mem _)) (calm_ended hc (by omega))
theorem stamp_all (leave : Bool) {l : List Op3} (h : (chk l).2 = 0) : StOk l (stampR leave l) := by
  obtain ⟨_, h2, h3⟩ := (chk_iff l).1 h
  have := stamp_ok leave l h2 h3 l.length (Nat.le_refl _)
  rw [List.take_length] at this
  exact this
/-- What is told is right. -/
theorem stamp_chk (leave : Bool) {l : List Op3} (h : (chk l).2 = 0) : (chk (stampR leave l).told).2 = 0 := by
  have h1 := stamp_all leave h
  have h2 := chk_len h
  exact (chk_iff _).2 ⟨by have := h1.long; omega, h1.ops, h1.calm⟩
end Go.Proofs.Ytccjognnehoodaf
