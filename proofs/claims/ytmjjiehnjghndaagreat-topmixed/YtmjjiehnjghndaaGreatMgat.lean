/-
  PROVED HERE: plain facts, with no word of the program: how a deal has ended by a place, from whom an op reads, what may be undone of a list; what is rigorous is strict, what is strict is cautious, what is cautious is recoverable; what is rigorous is the same along the order in which its deals commit; a beginning of what is cautious, strict, rigorous is so.
  Conditions: none.
  (Of these, what the claim wants: the rest was left out.)
  PROVED HERE: plain facts, with no word of the program: ops by numbers, as chapter 10 has them, as a function on lists; what is told is right if what was asked is, of two that are at odds the first one is of the lesser number, and who is aborted ends so.
  Conditions: none.
  (Of these, what the claim wants: the rest was left out.)
-/
import Derived.Test.YtmjjiehnjghndaaGreatMgak
import Derived.Test.YtmjjiehnjghndaaGreatMgai
import Derived.Test.YtmjjiehnjghndaaGreatMgas
import Derived.Test.YtmjjiehnjghndaaGreatMgaf
import Derived.Test.YtmjjiehnjghndaaGreatMgab
import Derived.Test.YtmjjiehnjghndaaGreatMgap
namespace Go.Proofs.YtmjjiehnjghndaaGreat

/-- How a deal has ended by a place. -/
def endBy (h : List Op3) (t : Int) (i : Nat) : Int := endOf (h.take i) t
theorem calm_two {h : List Op3} (hc : Calm h) {i j : Nat} (hij : i < j) (hj : j < h.length) (he : endsB (opAt h i).2.1 = true) : (opAt h i).1 ≠ (opAt h j).1 := fun e => by
  have h1 := List.pairwise_iff_getElem.1 hc i j (by omega) hj hij
  rw [opAt_get (show i < h.length by omega), opAt_get hj] at e
  rw [opAt_get (show i < h.length by omega)] at he
  exact h1 ⟨e, he⟩
theorem endOf_yes {o : Op3} {r : List Op3} {t : Int} (h : o.1 = t ∧ 3 ≤ o.2.1) : endOf (o :: r) t = o.2.1 := if_pos h
theorem endOf_no {o : Op3} {r : List Op3} {t : Int} (h : ¬ (o.1 = t ∧ 3 ≤ o.2.1)) : endOf (o :: r) t = endOf r t := if_neg h
theorem endOf_app (l m : List Op3) (t : Int) : endOf (l ++ m) t = if endOf l t = 0 then endOf m t else endOf l t := by
  induction l with
  | nil => rfl
  | cons o r ih =>
    rw [List.cons_append]
    by_cases hc : o.1 = t ∧ 3 ≤ o.2.1
    · rw [endOf_yes hc, endOf_yes hc, if_neg (by omega)]
    · rw [endOf_no hc, endOf_no hc, ih]
theorem endBy_zero (h : List Op3) (t : Int) : endBy h t 0 = 0 := by simp [endBy, endOf]
theorem endBy_succ {h : List Op3} {i : Nat} (hi : i < h.length) (t : Int) : endBy h t (i + 1) = if endBy h t i = 0 then (if (opAt h i).1 = t ∧ 3 ≤ (opAt h i).2.1 then (opAt h i).2.1 else 0) else endBy h t i := by
  unfold endBy
  rw [List.take_succ_eq_append_getElem hi, endOf_app, opAt_get hi]
  simp [endOf]
/-- A deal has ended by a place just if an op of it that ends stands ahead of it, and as that op says. -/
theorem endBy_some {h : List Op3} (t : Int) : ∀ {i : Nat}, i ≤ h.length → endBy h t i ≠ 0 → ∃ k, k < i ∧ (opAt h k).1 = t ∧ 3 ≤ (opAt h k).2.1 ∧ (opAt h k).2.1 = endBy h t i := by
  intro i
  induction i with
  | zero => intro _ h0; exact absurd (endBy_zero h t) h0
  | succ i ih =>
    intro hi h0
    rw [endBy_succ (by omega)] at h0 ⊢
    by_cases hz : endBy h t i = 0
    · rw [if_pos hz] at h0 ⊢
      by_cases hc : (opAt h i).1 = t ∧ 3 ≤ (opAt h i).2.1
      · rw [if_pos hc]; exact ⟨i, by omega, hc.1, hc.2, rfl⟩
      · rw [if_neg hc] at h0; exact absurd rfl h0
    · rw [if_neg hz] at h0 ⊢
      obtain ⟨k, k1, k2⟩ := ih (by omega) hz
      exact ⟨k, by omega, k2⟩
/-- Did another deal that has not ended do such on the item of the i-th op, ahead of it? Among the first k. -/
def openTo (h : List Op3) (i : Nat) (what : Int) (k : Nat) : Bool := (List.range k).any fun m => (opAt h m).2.1 == what && ((opAt h m).2.2 == (opAt h i).2.2 && ((opAt h m).1 != (opAt h i).1 && endBy h (opAt h m).1 i == 0))
def openB (h : List Op3) (i : Nat) (what : Int) : Bool := openTo h i what i
theorem openB_iff {h : List Op3} {i : Nat} {what : Int} : openB h i what = true ↔ ∃ m, m < i ∧ (opAt h m).2.1 = what ∧ (opAt h m).2.2 = (opAt h i).2.2 ∧ (opAt h m).1 ≠ (opAt h i).1 ∧ endBy h (opAt h m).1 i = 0 := by
  simp [openB, openTo]
def rigAt (h : List Op3) (i : Nat) : Bool := !(decide ((opAt h i).2.1 ≤ 2) && (openB h i 2 || ((opAt h i).2.1 == 2 && openB h i 1)))
def rigB (h : List Op3) : Bool := (List.range h.length).all (rigAt h)
theorem all_at {p : Nat → Bool} {n : Nat} : (List.range n).all p = true ↔ ∀ i, i < n → p i = true := by simp
theorem two_sub {α : Type} : ∀ {l : List α} {i j : Nat} {x y : α}, i < j → l[i]? = some x → l[j]? = some y → [x, y].Sublist l := by
  intro l
  induction l with
  | nil => intro i j x y _ h; simp at h
  | cons a l ih =>
    intro i j x y hij hi hj
    cases j with
    | zero => omega
    | succ j =>
      cases i with
      | zero =>
        simp at hi hj
        subst hi
        exact List.Sublist.cons_cons a (List.singleton_sublist.2 (List.mem_of_getElem? hj))
      | succ i =>
        simp at hi hj
        exact (ih (by omega) hi hj).cons a
theorem sub_two {α : Type} : ∀ {l : List α} {x y : α}, [x, y].Sublist l → ∃ i j : Nat, i < j ∧ l[i]? = some x ∧ l[j]? = some y := by
  intro l
  induction l with
  | nil => intro x y h; cases h
  | cons a l ih =>
    intro x y h
    cases h with
    | cons _ h =>
      obtain ⟨i, j, hij, hi, hj⟩ := ih h
      exact ⟨i + 1, j + 1, by omega, by simpa using hi, by simpa using hj⟩
    | cons_cons _ h =>
      obtain ⟨j, hj⟩ := List.mem_iff_getElem?.1 (List.singleton_sublist.1 h)
      exact ⟨0, j + 1, by omega, by simp, by simpa using hj⟩
theorem opAt_some {l : List Op3} {i : Nat} {o : Op3} (h : l[i]? = some o) : opAt l i = o ∧ i < l.length := by
  have := (List.getElem?_eq_some_iff.1 h).1
  exact ⟨by simp [opAt, List.getD, h], this⟩
theorem some_opAt {l : List Op3} {i : Nat} (h : i < l.length) : l[i]? = some (opAt l i) := by
  simp [opAt, List.getD, List.getElem?_eq_getElem h]
/-- The deals that commit, as they do. -/
def comL (h : List Op3) : List Int := (h.filter fun o => o.2.1 == 3).map (·.1)
theorem mem_com {h : List Op3} {x : Int} : x ∈ comL h ↔ ∃ o ∈ h, o.2.1 = 3 ∧ o.1 = x := by
  simp only [comL, List.mem_map, List.mem_filter, beq_iff_eq]
  constructor
  · rintro ⟨o, ⟨h1, h2⟩, h3⟩; exact ⟨o, h1, h2, h3⟩
  · rintro ⟨o, h1, h2, h3⟩; exact ⟨o, ⟨h1, h2⟩, h3⟩
theorem com_once {h : List Op3} (hc : Calm h) : (comL h).Nodup := by
  unfold comL
  rw [List.nodup_iff_pairwise_ne, List.pairwise_map]
  refine List.Pairwise.imp_of_mem ?_ (List.Pairwise.sublist List.filter_sublist hc)
  intro a b ha _ hab e
  have h3 : a.2.1 = 3 := by simpa using (List.mem_filter.1 ha).2
  exact hab ⟨e, by rw [h3]; rfl⟩
theorem com_sort {h : List Op3} (hc : (chk h).2 = 0) : sortI (comL h) = dealsL (doneL h) := by
  have hop := chk_ops hc
  refine sort_of_mem (com_once ((chk_iff h).1 hc).2.2) (dealsL_rise _) fun x => ?_
  rw [mem_com, mem_deals, hasB_iff]
  constructor
  · rintro ⟨o, h1, h2, h3⟩
    have ht := isOp_tx (hop o h1)
    refine ⟨by omega, by omega, o, ?_, h3⟩
    unfold doneL
    refine List.mem_filter.2 ⟨h1, ?_⟩
    unfold commIn
    exact List.any_eq_true.2 ⟨o, h1, by simp [h2]; omega⟩
  · rintro ⟨_, _, o, h1, h2⟩
    obtain ⟨h3, h4⟩ := List.mem_filter.1 h1
    unfold commIn at h4
    obtain ⟨p, p1, p2⟩ := List.any_eq_true.1 h4
    simp only [Bool.and_eq_true, beq_iff_eq] at p2
    have ht := isOp_tx (hop o h3)
    exact ⟨p, p1, p2.2, by omega⟩
theorem com_at {h : List Op3} {o : Op3} (ho : o ∈ doneL h) (ht : 1 ≤ o.1) : ∃ c, c < h.length ∧ (opAt h c).1 = o.1 ∧ (opAt h c).2.1 = 3 := by
  obtain ⟨_, h4⟩ := List.mem_filter.1 ho
  unfold commIn at h4
  obtain ⟨p, p1, p2⟩ := List.any_eq_true.1 h4
  simp only [Bool.and_eq_true, beq_iff_eq] at p2
  obtain ⟨c, hc⟩ := List.mem_iff_getElem?.1 p1
  obtain ⟨e1, e2⟩ := opAt_some hc
  exact ⟨c, e2, by rw [e1]; omega, by rw [e1]; exact p2.2⟩
/-- What is rigorous keeps to its edges as its deals commit. -/
theorem rig_keeps {h : List Op3} (hc : (chk h).2 = 0) (hr : rigB h = true) : Keeps (edgesTo (doneL h) 36) (comL h) := by
  intro e he
  have hop := chk_ops hc
  have hcalm := ((chk_iff h).1 hc).2.2
  obtain ⟨i, j, hij, hj, ho, rfl⟩ := mem_edge he
  have hs : [opAt (doneL h) i, opAt (doneL h) j].Sublist h := (two_sub hij (some_opAt (by omega)) (some_opAt hj)).trans List.filter_sublist
  have hi1 : opAt (doneL h) i ∈ doneL h := opAt_mem (by omega)
  have hj1 : opAt (doneL h) j ∈ doneL h := opAt_mem hj
  obtain ⟨a, b, hab, ha, hb⟩ := sub_two hs
  obtain ⟨ea, la⟩ := opAt_some ha
  obtain ⟨eb, lb⟩ := opAt_some hb
  rw [← ea] at ho hi1 ⊢
  rw [← eb] at ho hj1 ⊢
  unfold oddB at ho
  simp only [Bool.and_eq_true, bne_iff_ne, beq_iff_eq, Bool.or_eq_true] at ho
  obtain ⟨hne, hx, hw⟩ := ho
  have ta := isOp_tx (hop _ (opAt_mem la))
  have tb := isOp_tx (hop _ (opAt_mem lb))
  have kind : ∀ {k : Nat}, k < h.length → 1 ≤ (opAt h k).2.2 → (opAt h k).2.1 = 1 ∨ (opAt h k).2.1 = 2 := fun {k} hk h1 => by
    have h2 := hop _ (opAt_mem hk)
    simp only [isOpB, Bool.and_eq_true, Bool.not_eq_true', Bool.or_eq_false_iff, decide_eq_false_iff_not] at h2
    obtain ⟨⟨⟨_, h3⟩, h4⟩, h5⟩ := h2
    by_cases he : endsB (opAt h k).2.1 = true
    · rw [if_pos he] at h5
      have : (opAt h k).2.2 = 0 := by simpa using h5
      omega
    · simp only [endsB, Bool.or_eq_true, beq_iff_eq, not_or] at he
      omega
  have hitem : 1 ≤ (opAt h b).2.2 := by
    rcases hw with h2 | h2
    · have := isOp_item (hop _ (opAt_mem la)) (.inr h2)
      omega
    · exact (isOp_item (hop _ (opAt_mem lb)) (.inr h2)).1
  have kb := kind lb hitem
  have ka := kind la (by omega)
  have hrb := all_at.1 hr b lb
  have hend : endBy h (opAt h a).1 b ≠ 0 := fun h0 => by
    have hopen : ∀ wh, (opAt h a).2.1 = wh → openB h b wh = true := fun wh h1 => openB_iff.2 ⟨a, hab, h1, hx, hne, h0⟩
    unfold rigAt at hrb
    rw [show decide ((opAt h b).2.1 ≤ 2) = true from decide_eq_true (by omega)] at hrb
    rcases ka with h1 | h1
    · have h2 : (opAt h b).2.1 = 2 := by
        rcases hw with h3 | h3
        · omega
        · exact h3
      rw [hopen 1 h1, h2] at hrb
      simp at hrb
    · rw [hopen 2 h1] at hrb
      simp at hrb
  obtain ⟨k, k1, k2, k3, _⟩ := endBy_some _ (Nat.le_of_lt lb) hend
  obtain ⟨c1, c1l, c1t, c1w⟩ := com_at hi1 ta.1
  obtain ⟨c2, c2l, c2t, c2w⟩ := com_at hj1 tb.1
  have hkc : k = c1 := by
    have hek : endsB (opAt h k).2.1 = true := by
      rw [isOp_ends (hop _ (opAt_mem (show k < h.length by omega)))]
      simpa using k3
    have hec : endsB (opAt h c1).2.1 = true := by rw [c1w]; rfl
    rcases Nat.lt_trichotomy k c1 with e | e | e
    · exact absurd (by rw [k2, c1t]) (calm_two hcalm e c1l hek)
    · exact e
    · exact absurd (by rw [k2, c1t]) (calm_two hcalm e (by omega) hec)
  have hbc : b < c2 := by
    have hec : endsB (opAt h c2).2.1 = true := by rw [c2w]; rfl
    rcases Nat.lt_trichotomy b c2 with e | e | e
    · exact e
    · subst e; omega
    · exact absurd c2t (calm_two hcalm e lb hec)
  have hsub : [opAt h c1, opAt h c2].Sublist h := two_sub (show c1 < c2 by omega) (some_opAt c1l) (some_opAt c2l)
  have hfil := (hsub.filter fun o => o.2.1 == 3).map (fun o : Op3 => o.1)
  rw [List.filter_cons_of_pos (by simp [c1w]), List.filter_cons_of_pos (by simp [c2w])] at hfil
  rw [← c1t, ← c2t]
  exact hfil
theorem opAt_take {h : List Op3} {n k : Nat} (hk : k < n) : opAt (h.take n) k = opAt h k := by simp [opAt, List.getD, hk]
theorem endBy_take {h : List Op3} {n i : Nat} (hi : i ≤ n) (t : Int) : endBy (h.take n) t i = endBy h t i := by
  unfold endBy; rw [List.take_take, Nat.min_eq_left hi]
theorem openB_take {h : List Op3} {n i : Nat} (hi : i < n) (what : Int) : openB (h.take n) i what = openB h i what := by
  rw [Bool.eq_iff_iff, openB_iff, openB_iff, opAt_take hi]
  constructor
  · rintro ⟨m, m1, m2⟩
    rw [opAt_take (show m < n by omega), endBy_take (by omega)] at m2
    exact ⟨m, m1, m2⟩
  · rintro ⟨m, m1, m2⟩
    refine ⟨m, m1, ?_⟩
    rw [opAt_take (show m < n by omega), endBy_take (by omega)]
    exact m2
end Go.Proofs.YtmjjiehnjghndaaGreat

namespace Go.Proofs.YtmjjiehnjghndaaGreat

/-- How things stand while deals ask: the greatest that read, that wrote, of each item; who is aborted; what is told; who was aborted, in order. -/
structure Stm where
  rd : Int → Int
  wr : Int → Int
  out : Int → Bool
  told : List Op3
  vict : List Int
def goneS (s : Stm) (t : Int) : Stm := { s with out := setF s.out t true, vict := s.vict ++ [t], told := s.told ++ [(t, 4, 0)] }
/-- What is always so, when the first of a list have come. -/
structure StOk (pre : List Op3) (s : Stm) : Prop where
  ops : ∀ o ∈ s.told, isOpB o = true
  calm : Calm s.told
  ends : ∀ t, s.out t = false → endedIn s.told t = true → endedIn pre t = true
  rds : ∀ o ∈ s.told, o.2.1 = 1 → o.1 ≤ s.rd o.2.2
  wrs : ∀ o ∈ s.told, o.2.1 = 2 → o.1 ≤ s.wr o.2.2
  rise : s.told.Pairwise fun a b => oddB a b = true → a.1 < b.1
  vict : ∀ v ∈ s.vict, s.out v = true ∧ 1 ≤ v ∧ v ≤ 6
  last : ∀ t, s.out t = true → ∃ q, ofL s.told t = q ++ [(t, 4, 0)]
  long : s.told.length ≤ pre.length ∧ s.vict.length ≤ pre.length
theorem calm_snoc {l : List Op3} {x : Op3} (h : Calm l) (hx : endedIn l x.1 = false) : Calm (l ++ [x]) := by
  refine List.pairwise_append.2 ⟨h, List.pairwise_singleton _ _, fun a ha b hb => ?_⟩
  rw [List.mem_singleton.1 hb]
  rintro ⟨e1, e2⟩
  have : endedIn l x.1 = true := List.any_eq_true.2 ⟨a, ha, by rw [e1, e2]; simp⟩
  rw [hx] at this
  cases this
theorem ended_snoc (l : List Op3) (x : Op3) (t : Int) : endedIn (l ++ [x]) t = (endedIn l t || (x.1 == t && endsB x.2.1)) := by
  unfold endedIn
  rw [List.any_append]
  simp
theorem of_snoc (l : List Op3) (x : Op3) (t : Int) : ofL (l ++ [x]) t = ofL l t ++ (if x.1 = t then [x] else []) := by
  unfold ofL
  rw [List.filter_append]
  congr 1
  by_cases h : x.1 = t
  · simp [h]
  · simp [h]
theorem odd_parts {a b : Op3} (h : oddB a b = true) : a.1 ≠ b.1 ∧ a.2.2 = b.2.2 ∧ (a.2.1 = 2 ∨ b.2.1 = 2) := by
  simpa [oddB] using h
theorem isOp_pos {o : Op3} (h : isOpB o = true) (hw : o.2.1 = 1 ∨ o.2.1 = 2) : 1 ≤ o.2.2 := by
  simp only [isOpB, endsB, Bool.and_eq_true] at h
  have h5 := h.2
  rcases hw with e | e <;> rw [e] at h5 <;> simp at h5 <;> omega
theorem StOk.skip {pre : List Op3} {s : Stm} (h : StOk pre s) (o : Op3) : StOk (pre ++ [o]) s := by
  refine ⟨h.ops, h.calm, fun t ht he => ?_, h.rds, h.wrs, h.rise, h.vict, h.last, ?_⟩
  · rw [ended_snoc, h.ends t ht he]; rfl
  · have := h.long
    rw [List.length_append]
    omega
theorem StOk.gone {pre : List Op3} {s : Stm} {o : Op3} (h : StOk pre s) (hop : isOpB o = true) (hout : s.out o.1 = false) (hend : endedIn pre o.1 = false) : StOk (pre ++ [o]) (goneS s o.1) := by
  have hne : endedIn s.told o.1 = false := by
    cases he : endedIn s.told o.1 with
    | false => rfl
    | true => rw [h.ends _ hout he] at hend; cases hend
  have hr := isOp_range hop
  have hab : isOpB (o.1, 4, 0) = true := by simp [isOpB, endsB]; omega
  refine ⟨fun x hx => ?_, calm_snoc (x := (o.1, 4, 0)) h.calm hne, fun t ht he => ?_, fun x hx hx1 => ?_, fun x hx hx2 => ?_, ?_, fun v hv => ?_, fun t ht => ?_, ?_⟩
  · rcases List.mem_append.1 hx with hx | hx
    · exact h.ops x hx
    · rw [List.mem_singleton.1 hx]; exact hab
  · have ht' : setF s.out o.1 true t = false := ht
    have hne2 : t ≠ o.1 := fun e => by rw [e, setF_same] at ht'; cases ht'
    rw [setF_other _ _ hne2] at ht'
    have he' : endedIn (s.told ++ [(o.1, 4, 0)]) t = true := he
    rw [ended_snoc] at he'
    rcases Bool.or_eq_true_iff.1 he' with h1 | h1
    · rw [ended_snoc, h.ends t ht' h1]; rfl
    · simp at h1; exact absurd h1.1.symm hne2
  · rcases List.mem_append.1 hx with hx | hx
    · exact h.rds x hx hx1
    · rw [List.mem_singleton.1 hx] at hx1; cases hx1
  · rcases List.mem_append.1 hx with hx | hx
    · exact h.wrs x hx hx2
    · rw [List.mem_singleton.1 hx] at hx2; cases hx2
  · refine List.pairwise_append.2 ⟨h.rise, List.pairwise_singleton _ _, fun a ha b hb hodd => ?_⟩
    rw [List.mem_singleton.1 hb] at hodd
    obtain ⟨e1, e2, e3⟩ := odd_parts hodd
    rcases e3 with e3 | e3
    · have := isOp_pos (h.ops a ha) (.inr e3)
      simp at e2
      omega
    · simp at e3
  · rcases List.mem_append.1 hv with hv | hv
    · obtain ⟨h1, h2⟩ := h.vict v hv
      refine ⟨?_, h2⟩
      show setF s.out o.1 true v = true
      unfold setF
      split
      · rfl
      · exact h1
    · rw [List.mem_singleton.1 hv]; exact ⟨setF_same _ _ _, hr⟩
  · show ∃ q, ofL (s.told ++ [(o.1, 4, 0)]) t = q ++ [(t, 4, 0)]
    rw [of_snoc]
    by_cases e : o.1 = t
    · rw [if_pos e, e]; exact ⟨_, rfl⟩
    · rw [if_neg e, List.append_nil]
      have ht' : setF s.out o.1 true t = true := ht
      rw [setF_other _ _ (fun h => e h.symm)] at ht'
      exact h.last t ht'
  · have := h.long
    show (s.told ++ [_]).length ≤ (pre ++ [o]).length ∧ (s.vict ++ [_]).length ≤ (pre ++ [o]).length
    simp only [List.length_append, List.length_singleton]
    omega
end Go.Proofs.YtmjjiehnjghndaaGreat
