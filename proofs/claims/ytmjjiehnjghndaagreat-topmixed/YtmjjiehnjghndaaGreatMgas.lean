/-
  PROVED HERE: plain facts, with no word of the program: how the table, those that wait, those whose turn is not yet (they hold what they waited for, but nothing of it is told), and those that are aborted fit together while deals ask, as chapter 9 has them.
  Conditions: none.
  (Of these, what the claim wants: the rest was left out.)
  PROVED HERE: plain facts, with no word of the program: who wrote an item last, what each op reads, and that the two ways to say that two lists look the same are one; the Reads and from whom; the first order by numbers of which something is so.
  Conditions: none.
  (Of these, what the claim wants: the rest was left out.)
-/
import Derived.Test.YtmjjiehnjghndaaGreatMgap
import Derived.Test.YtmjjiehnjghndaaGreatMgaq
import Derived.Test.YtmjjiehnjghndaaGreatMgar
import Derived.Test.YtmjjiehnjghndaaGreatMgaj
namespace Go.Proofs.YtmjjiehnjghndaaGreat

/-- The lock that an op needs, and the op of a lock. -/
def lkOf (o : Op3) : Op3 := (o.1, o.2.2, o.2.1)
theorem lkOf_lkOf (o : Op3) : lkOf (lkOf o) = o := rfl
/-- How it fits together. P: whose turn is not yet, and what each came to hold. -/
structure Fits (r : Runr) (P : Int → Option Op3) : Prop where
  ok : TabOk r.tab
  tab : ∀ x ∈ r.tab.2, r.waits x.1 = true ∧ P x.1 = none ∧ x = lkOf (r.op x.1)
  has : ∀ d, r.waits d = true → P d = none → ∃ x ∈ r.tab.2, x.1 = d
  out : ∀ d, r.out d = true → r.waits d = false
  pend : ∀ d x, P d = some x → r.out d = false → r.waits d = true ∧ x = lkOf (r.op d)
  vict : ∀ d, r.out d = true ↔ d ∈ r.vict
  nodup : r.vict.Pairwise (· ≠ ·)
  lock : ∀ d, r.waits d = true → isLock (lkOf (r.op d)) = true ∧ (r.op d).1 = d
/-- .. but for one deal whose locks are to be freed. -/
structure FitsBut (r : Runr) (P : Int → Option Op3) (t : Int) : Prop where
  ok : TabOk r.tab
  tab : ∀ x ∈ r.tab.2, x.1 ≠ t → r.waits x.1 = true ∧ P x.1 = none ∧ x = lkOf (r.op x.1)
  has : ∀ d, r.waits d = true → P d = none → ∃ x ∈ r.tab.2, x.1 = d
  out : ∀ d, r.out d = true → r.waits d = false
  pend : ∀ d x, P d = some x → r.out d = false → r.waits d = true ∧ x = lkOf (r.op d)
  vict : ∀ d, r.out d = true ↔ d ∈ r.vict
  nodup : r.vict.Pairwise (· ≠ ·)
  lock : ∀ d, r.waits d = true → isLock (lkOf (r.op d)) = true ∧ (r.op d).1 = d
  not : r.waits t = false
theorem fits0 : Fits run0 fun _ => none := ⟨tab_nil, fun x h => (by cases h), fun d h => (by cases h), fun d h => (by cases h), fun d x h => (by cases h), fun d => ⟨fun h => (by cases h), fun h => (by cases h)⟩, List.Pairwise.nil, fun d h => (by cases h)⟩
section
variable {r : Runr} {P : Int → Option Op3} {t : Int}
theorem Fits.told (h : Fits r P) (l : List Op3) : Fits { r with told := l } P := ⟨h.ok, h.tab, h.has, h.out, h.pend, h.vict, h.nodup, h.lock⟩
theorem Fits.behind (h : Fits r P) (b : Int → List Op3) : Fits { r with behind := b } P := ⟨h.ok, h.tab, h.has, h.out, h.pend, h.vict, h.nodup, h.lock⟩
theorem Fits.but (h : Fits r P) (hw : r.waits t = false) : FitsBut r P t := ⟨h.ok, fun x hx _ => h.tab x hx, h.has, h.out, h.pend, h.vict, h.nodup, h.lock, hw⟩
/-- Who does an op is not one whose turn is not yet. -/
theorem Fits.idle (h : Fits r P) {d : Int} (ho : r.out d = false) (hw : r.waits d = false) : P d = none := by
  cases hp : P d with
  | none => rfl
  | some x => have := (h.pend d x hp ho).1; rw [hw] at this; cases this
/-- For whom a deal waits, as the table has it. -/
theorem Fits.whom_yes (h : Fits r P) {d : Int} (hw : r.waits d = true) (hp : P d = none) : whomR r.tab d = forT r.tab (lkOf (r.op d)) := by
  obtain ⟨x, hx, he⟩ := h.has d hw hp
  unfold whomR
  cases hf : r.tab.2.find? fun y => y.1 == d with
  | none =>
    have := List.find?_eq_none.1 hf x hx
    simp [he] at this
  | some y =>
    have hy1 : y.1 = d := by simpa using List.find?_some hf
    have hy2 := (h.tab y (List.mem_of_find?_eq_some hf)).2.2
    rw [hy1] at hy2
    rw [← hy2]
theorem Fits.whom_no (h : Fits r P) {d : Int} (hw : ¬ (r.waits d = true ∧ P d = none)) : whomR r.tab d = [] := by
  unfold whomR
  cases hf : r.tab.2.find? fun y => y.1 == d with
  | none => rfl
  | some y =>
    have hy1 : y.1 = d := by simpa using List.find?_some hf
    have hy2 := h.tab y (List.mem_of_find?_eq_some hf)
    rw [hy1] at hy2
    exact absurd ⟨hy2.1, hy2.2.1⟩ hw
end
/-- More whose turn is not yet. -/
def addP (P : Int → Option Op3) (l : List Op3) (d : Int) : Option Op3 := match l.find? fun y => y.1 == d with | some x => some x | none => P d
theorem addP_none {P : Int → Option Op3} {l : List Op3} {d : Int} : addP P l d = none ↔ P d = none ∧ ∀ y ∈ l, y.1 ≠ d := by
  unfold addP
  cases hf : l.find? fun y => y.1 == d with
  | none =>
    have h1 := List.find?_eq_none.1 hf
    exact ⟨fun h => ⟨h, fun y hy e => h1 y hy (by simp [e])⟩, fun h => h.1⟩
  | some x =>
    refine ⟨fun h => (by cases h), fun h => absurd (by simpa using List.find?_some hf) (h.2 x (List.mem_of_find?_eq_some hf))⟩
theorem addP_some {P : Int → Option Op3} {l : List Op3} {d : Int} {x : Op3} (h : addP P l d = some x) : (x ∈ l ∧ x.1 = d) ∨ P d = some x := by
  unfold addP at h
  cases hf : l.find? fun y => y.1 == d with
  | none => rw [hf] at h; exact .inr h
  | some y =>
    rw [hf] at h
    cases h
    exact .inl ⟨List.mem_of_find?_eq_some hf, by simpa using List.find?_some hf⟩
theorem addP_head (P : Int → Option Op3) (x : Op3) (l : List Op3) : addP P (x :: l) x.1 = some x := by
  unfold addP
  simp
theorem addP_tail (P : Int → Option Op3) (x : Op3) (l : List Op3) {d : Int} (h : d ≠ x.1) : addP P (x :: l) d = addP P l d := by
  unfold addP
  rw [List.find?_cons_of_neg (by simp; exact Ne.symm h)]
theorem addP_off {P : Int → Option Op3} {l : List Op3} {d : Int} (h : ∀ y ∈ l, y.1 ≠ d) : addP P l d = P d := by
  unfold addP
  rw [List.find?_eq_none.2 fun y hy => by simp; exact h y hy]
/-- Who is looked at is held by it, or waits on. -/
theorem grants_perm : ∀ (l : List Op3) (s : Tab2 × List Op3), ((grants s l).1.2 ++ (grants s l).2).Perm (s.1.2 ++ s.2 ++ l) := by
  intro l
  induction l with
  | nil => intro s; simp [grants]
  | cons x r ih =>
    intro s
    have h1 := ih (grant s x)
    have h2 : ((grant s x).1.2 ++ (grant s x).2 ++ r).Perm (s.1.2 ++ s.2 ++ (x :: r)) := by
      unfold grant
      split
      · simp only [List.append_assoc, List.singleton_append]
        exact List.Perm.refl _
      · simp only [List.append_assoc, List.singleton_append]
        refine List.Perm.append_left _ ?_
        exact List.perm_middle.symm
    exact h1.trans h2
theorem free_perm (s : Tab2) (t : Int) : ((freeT s t).1.2 ++ (freeT s t).2).Perm (withoutL s.2 t) := by
  have := grants_perm (withoutL s.2 t) ((withoutL s.1 t, []), [])
  simpa [freeT] using this
theorem free_apart {s : Tab2} (h : TabOk s) (t : Int) : ((freeT s t).1.2 ++ (freeT s t).2).Pairwise fun a b => a.1 ≠ b.1 :=
  ((free_perm s t).pairwise_iff (fun {_ _} hne => Ne.symm hne)).2 (h.deals.filter _)
theorem free_mem {s : Tab2} {t : Int} {x : Op3} (hx : x ∈ s.2) (hne : x.1 ≠ t) : x ∈ (freeT s t).1.2 ∨ x ∈ (freeT s t).2 := by
  have h1 : x ∈ withoutL s.2 t := List.mem_filter.2 ⟨hx, by simp [hne]⟩
  have h2 := (free_perm s t).mem_iff.2 h1
  rw [List.mem_append] at h2
  exact h2
/-- Locks have been freed. -/
theorem FitsBut.free {r : Runr} {P : Int → Option Op3} {t : Int} (h : FitsBut r P t) : Fits { r with tab := (freeT r.tab t).1 } (addP P (freeT r.tab t).2) := by
  have hap := free_apart h.ok t
  rw [List.pairwise_append] at hap
  refine ⟨free_ok h.ok t, fun x hx => ?_, fun d hw hp => ?_, h.out, fun d x hp ho => ?_, h.vict, h.nodup, h.lock⟩
  · obtain ⟨h1, h2⟩ := mem_free.2.1 hx
    obtain ⟨k1, k2, k3⟩ := h.tab x h1 h2
    exact ⟨k1, addP_none.2 ⟨k2, fun y hy e => hap.2.2 x hx y hy e.symm⟩, k3⟩
  · obtain ⟨h1, h2⟩ := addP_none.1 hp
    obtain ⟨x, hx, he⟩ := h.has d hw h1
    have hne : x.1 ≠ t := fun e => by rw [← he, e, h.not] at hw; cases hw
    rcases free_mem hx hne with h3 | h3
    · exact ⟨x, h3, he⟩
    · exact absurd he (h2 x h3)
  · rcases addP_some hp with ⟨h1, h2⟩ | h1
    · obtain ⟨h3, h4⟩ := mem_free.2.2 h1
      obtain ⟨k1, k2, k3⟩ := h.tab x h3 h4
      rw [h2] at k1 k3
      exact ⟨k1, k3⟩
    · exact h.pend d x h1 ho
theorem FitsBut.idle {r : Runr} {P : Int → Option Op3} {t : Int} (h : FitsBut r P t) : ∀ x ∈ (freeT r.tab t).2, P x.1 = none := fun x hx => by
  obtain ⟨h3, h4⟩ := mem_free.2.2 hx
  exact (h.tab x h3 h4).2.1
/-- One that was aborted ahead of its turn. -/
theorem Fits.skip {r : Runr} {P : Int → Option Op3} {x : Op3} {l : List Op3} (h : Fits r (addP P (x :: l))) (ho : r.out x.1 = true) (hl : ∀ y ∈ l, y.1 ≠ x.1) (hp : P x.1 = none) : Fits r (addP P l) := by
  have hx : addP P l x.1 = none := by rw [addP_off hl]; exact hp
  refine ⟨h.ok, fun y hy => ?_, fun d hw hq => ?_, h.out, fun d z hq hz => ?_, h.vict, h.nodup, h.lock⟩
  · obtain ⟨h1, h2, h3⟩ := h.tab y hy
    refine ⟨h1, ?_, h3⟩
    by_cases e : y.1 = x.1
    · rw [e]; exact hx
    · rw [addP_tail P x l e] at h2; exact h2
  · by_cases e : d = x.1
    · subst e; rw [h.out _ ho] at hw; cases hw
    · exact h.has d hw (by rw [addP_tail P x l e]; exact hq)
  · by_cases e : d = x.1
    · subst e; rw [hx] at hq; cases hq
    · exact h.pend d z (by rw [addP_tail P x l e]; exact hq) hz
/-- One whose turn it is. -/
theorem Fits.got {r : Runr} {P : Int → Option Op3} {x : Op3} {l : List Op3} (h : Fits r (addP P (x :: l))) (ho : r.out x.1 = false) (hl : ∀ y ∈ l, y.1 ≠ x.1) (hp : P x.1 = none) : r.waits x.1 = true ∧ x = lkOf (r.op x.1) ∧ Fits (gotR r x.1) (addP P l) := by
  have hx : addP P l x.1 = none := by rw [addP_off hl]; exact hp
  obtain ⟨hw, he⟩ := h.pend x.1 x (addP_head P x l) ho
  refine ⟨hw, he, ⟨h.ok, fun y hy => ?_, fun d hw2 hq => ?_, fun d hd => ?_, fun d z hq hz => ?_, h.vict, h.nodup, fun d hd => ?_⟩⟩
  · obtain ⟨h1, h2, h3⟩ := h.tab y hy
    have e : y.1 ≠ x.1 := fun e => by rw [e, addP_head] at h2; cases h2
    rw [addP_tail P x l e] at h2
    exact ⟨by show setF r.waits x.1 false y.1 = true; rw [setF_other _ _ e]; exact h1, h2, h3⟩
  · have hw3 : setF r.waits x.1 false d = true := hw2
    have e : d ≠ x.1 := fun e => by rw [e, setF_same] at hw3; cases hw3
    rw [setF_other _ _ e] at hw3
    exact h.has d hw3 (by rw [addP_tail P x l e]; exact hq)
  · show setF r.waits x.1 false d = false
    by_cases e : d = x.1
    · rw [e, setF_same]
    · rw [setF_other _ _ e]; exact h.out d hd
  · have e : d ≠ x.1 := fun e => by rw [e, hx] at hq; cases hq
    obtain ⟨k1, k2⟩ := h.pend d z (by rw [addP_tail P x l e]; exact hq) hz
    exact ⟨by show setF r.waits x.1 false d = true; rw [setF_other _ _ e]; exact k1, k2⟩
  · have hw3 : setF r.waits x.1 false d = true := hd
    have e : d ≠ x.1 := fun e => by rw [e, setF_same] at hw3; cases hw3
    rw [setF_other _ _ e] at hw3
    exact h.lock d hw3
def DoFits (doF : Runr → Op3 → Runr) : Prop := ∀ r o P, Good r → Fits r P → r.out o.1 = false → r.waits o.1 = false → isOpB o = true → Fits (doF r o) P
theorem drain_fits {doF : Runr → Op3 → Runr} (hO : DoOk doF) (hF : DoFits doF) {P : Int → Option Op3} (d : Int) (h1 : 1 ≤ d) (h6 : d ≤ 6) : ∀ (m : Nat) (r : Runr), Good r → Fits r P → Fits (drainN doF d m r) P := by
  intro m
  induction m with
  | zero => intro r _ h; exact h
  | succ m ih =>
    intro r hg h
    unfold drainN
    split
    · exact h
    · rename_i hw
      split
      · exact h
      · rename_i o q hb
        obtain ⟨p1, p2, p3, p4, p5, p6⟩ := pop_ok hg h1 h6 hb
        have hw' : r.waits d = false := by simpa using hw
        have ho : (popR r d q).out o.1 = false := by rw [p4]; exact p6
        have hw2 : (popR r d q).waits o.1 = false := by rw [p4]; exact hw'
        have hs := hO (popR r d q) o p1 ho hw2 p5
        exact ih _ hs.good (hF (popR r d q) o P p1 (h.behind _) ho hw2 p5)
theorem grants_fits {doF : Runr → Op3 → Runr} (hO : DoOk doF) (hF : DoFits doF) {P : Int → Option Op3} : ∀ (l : List Op3) (r : Runr), Good r → Fits r (addP P l) → (l.Pairwise fun a b => a.1 ≠ b.1) → (∀ x ∈ l, P x.1 = none) → Fits (l.foldl (grantR doF) r) P := by
  intro l
  induction l with
  | nil => intro r _ h _ _; exact h
  | cons x l ih =>
    intro r hg h hp hn
    rw [List.pairwise_cons] at hp
    have hl : ∀ y ∈ l, y.1 ≠ x.1 := fun y hy e => hp.1 y hy e.symm
    have hg1 := (grant_ok hO x r hg).good
    refine ih (grantR doF r x) hg1 ?_ hp.2 fun y hy => hn y (List.mem_cons_of_mem _ hy)
    cases ho : r.out x.1 with
    | true => rw [grantR_no (h.out _ ho)]; exact h.skip ho hl (hn x List.mem_cons_self)
    | false =>
      obtain ⟨k1, k2, k3⟩ := h.got ho hl (hn x List.mem_cons_self)
      rw [grantR_yes k1]
      have hr := hg.wait x.1 k1
      exact drain_fits hO hF x.1 hr.1 hr.2 _ _ (got_ok hg k1).1 k3
theorem free_fits {doF : Runr → Op3 → Runr} (hO : DoOk doF) (hF : DoFits doF) {P : Int → Option Op3} {r : Runr} {t : Int} (hg : Good { r with tab := (freeT r.tab t).1 }) (h : FitsBut r P t) : Fits (freeR doF r t) P := by
  have hap := free_apart h.ok t
  rw [List.pairwise_append] at hap
  exact grants_fits hO hF _ _ hg h.free hap.2.1 h.idle
theorem Fits.abort {r : Runr} {P : Int → Option Op3} {t : Int} (h : Fits r P) (ho : r.out t = false) : FitsBut (abort0 r t) P t := by
  have hv : t ∉ r.vict := fun hm => by rw [(h.vict t).2 hm] at ho; cases ho
  refine ⟨h.ok, fun x hx hne => ?_, fun d hw hp => ?_, fun d hd => ?_, fun d x hp hq => ?_, fun d => ?_, ?_, fun d hw => ?_, setF_same _ _ _⟩
  · obtain ⟨k1, k2, k3⟩ := h.tab x hx
    exact ⟨by show setF r.waits t false x.1 = true; rw [setF_other _ _ hne]; exact k1, k2, k3⟩
  · have hw3 : setF r.waits t false d = true := hw
    have e : d ≠ t := fun e => by rw [e, setF_same] at hw3; cases hw3
    rw [setF_other _ _ e] at hw3
    exact h.has d hw3 hp
  · show setF r.waits t false d = false
    by_cases e : d = t
    · rw [e, setF_same]
    · have hd2 : setF r.out t true d = true := hd
      rw [setF_other _ _ e] at hd2 ⊢
      exact h.out d hd2
  · have hq2 : setF r.out t true d = false := hq
    have e : d ≠ t := fun e => by rw [e, setF_same] at hq2; cases hq2
    rw [setF_other _ _ e] at hq2
    obtain ⟨k1, k2⟩ := h.pend d x hp hq2
    exact ⟨by show setF r.waits t false d = true; rw [setF_other _ _ e]; exact k1, k2⟩
  · show setF r.out t true d = true ↔ d ∈ r.vict ++ [t]
    rw [List.mem_append, List.mem_singleton]
    by_cases e : d = t
    · rw [e, setF_same]; exact ⟨fun _ => .inr rfl, fun _ => rfl⟩
    · rw [setF_other _ _ e, h.vict d]; exact ⟨.inl, fun h => h.elim id fun e2 => absurd e2 e⟩
  · show (r.vict ++ [t]).Pairwise _
    rw [List.pairwise_append]
    refine ⟨h.nodup, List.pairwise_singleton _ _, fun a ha b hb e => hv ?_⟩
    rw [List.mem_singleton] at hb
    rw [← hb, ← e]
    exact ha
  · have hw3 : setF r.waits t false d = true := hw
    have e : d ≠ t := fun e => by rw [e, setF_same] at hw3; cases hw3
    rw [setF_other _ _ e] at hw3
    exact h.lock d hw3
theorem abort_fits {doF : Runr → Op3 → Runr} (hO : DoOk doF) (hF : DoFits doF) {P : Int → Option Op3} {r : Runr} {t : Int} (hg : Good r) (h : Fits r P) (h1 : 1 ≤ t) (h6 : t ≤ 6) (ho : r.out t = false) : Fits (abortR doF r t) P :=
  free_fits hO hF (abort_good hg h1 h6 ho) (h.abort ho)
theorem wound_fits {doF : Runr → Op3 → Runr} (hO : DoOk doF) (hF : DoFits doF) {P : Int → Option Op3} (t : Int) : ∀ (n : Nat) (r : Runr), Good r → Fits r P → Fits (woundN doF t n r) P := by
  intro n
  induction n with
  | zero => intro r _ h; exact h
  | succ n ih =>
    intro r hg h
    unfold woundN
    split
    · exact h
    · rename_i v hv
      obtain ⟨k1, k2, k3⟩ := whom_deal hg (young_mem hv).1
      exact ih _ (abort_ok hO hg k2 k3 k1).1.good (abort_fits hO hF hg h k2 k3 k1)
theorem way_fits {doF : Runr → Op3 → Runr} (hO : DoOk doF) (hF : DoFits doF) {P : Int → Option Op3} (way t : Int) (r : Runr) (hg : Good r) (h : Fits r P) (h1 : 1 ≤ t) (h6 : t ≤ 6) (ho : r.out t = false) : Fits (wayR way doF r t) P := by
  unfold wayR
  split
  · split
    · exact abort_fits hO hF hg h h1 h6 ho
    · exact h
  · split
    · split
      · exact h
      · split
        · exact abort_fits hO hF hg h h1 h6 ho
        · exact h
    · exact wound_fits hO hF t 7 r hg h
theorem ask_new {s : Tab2} {x : Op3} (hl : isLock x = true) (hw : waitsB s.2 x.1 = false) : ((askT s x).1.1 = true ∧ (askT s x).2.2 = s.2 ∧ (askT s x).1.2 = 0) ∨ askT s x = ((false, 0), (s.1, s.2 ++ [x])) := by
  unfold askT
  rw [if_neg (by rw [hl]; decide), if_neg (by rw [hw]; decide)]
  split
  · exact .inl ⟨rfl, rfl, rfl⟩
  · split
    · exact .inl ⟨rfl, rfl, rfl⟩
    · exact .inr rfl
theorem op_lock {o : Op3} (h : isOpB o = true) (ha : ¬ 3 ≤ o.2.1) : isLock (lkOf o) = true := by
  have he : endsB o.2.1 = false := by unfold endsB; simp; omega
  simp [isOpB, he] at h
  unfold lkOf isLock
  simp
  omega
theorem Fits.calm {r : Runr} {P : Int → Option Op3} (h : Fits r P) {d : Int} (hw : r.waits d = false) : waitsB r.tab.2 d = false := by
  cases hb : waitsB r.tab.2 d with
  | false => rfl
  | true =>
    obtain ⟨y, hy, he⟩ := List.any_eq_true.1 hb
    have := (h.tab y hy).1
    rw [show y.1 = d by simpa using he, hw] at this
    cases this
theorem Fits.held {r : Runr} {P : Int → Option Op3} {s : Tab2} (h : Fits r P) (hok : TabOk s) (he : s.2 = r.tab.2) : Fits { r with tab := s } P :=
  ⟨hok, fun x hx => h.tab x (he ▸ hx), fun d hw hp => by show ∃ x ∈ s.2, _; rw [he]; exact h.has d hw hp, h.out, h.pend, h.vict, h.nodup, h.lock⟩
theorem Fits.wait {r : Runr} {P : Int → Option Op3} {o : Op3} (h : Fits r P) (ho : r.out o.1 = false) (hw : r.waits o.1 = false) (hl : isLock (lkOf o) = true) (hask : askT r.tab (lkOf o) = ((false, 0), (r.tab.1, r.tab.2 ++ [lkOf o]))) : Fits (wait0 r o) P := by
  have hask' : askT r.tab (o.1, o.2.2, o.2.1) = ((false, 0), (r.tab.1, r.tab.2 ++ [lkOf o])) := hask
  have hP := h.idle ho hw
  have hold : ∀ x ∈ r.tab.2, x.1 ≠ o.1 := fun x hx e => by have := (h.tab x hx).1; rw [e, hw] at this; cases this
  have hk := ask_ok h.ok (lkOf o)
  have e2 : (wait0 r o).tab.2 = r.tab.2 ++ [lkOf o] := by show (askT r.tab (o.1, o.2.2, o.2.1)).2.2 = _; rw [hask']
  refine ⟨hk, fun x hx => ?_, fun d hd hp => ?_, fun d hd => ?_, fun d x hp hq => ?_, h.vict, h.nodup, fun d hd => ?_⟩
  · rw [e2, List.mem_append, List.mem_singleton] at hx
    show setF r.waits o.1 true x.1 = true ∧ _ ∧ x = lkOf (setF r.op o.1 o x.1)
    rcases hx with hx | rfl
    · rw [setF_other _ _ (hold x hx), setF_other _ _ (hold x hx)]; exact h.tab x hx
    · exact ⟨setF_same _ _ _, hP, by show lkOf o = lkOf (setF r.op o.1 o o.1); rw [setF_same]⟩
  · rw [e2]
    by_cases e : d = o.1
    · exact ⟨lkOf o, List.mem_append_right _ List.mem_cons_self, e.symm⟩
    · have hd2 : setF r.waits o.1 true d = true := hd
      rw [setF_other _ _ e] at hd2
      obtain ⟨x, hx, he⟩ := h.has d hd2 hp
      exact ⟨x, List.mem_append_left _ hx, he⟩
  · have e : d ≠ o.1 := fun e => by have hd2 : r.out d = true := hd; rw [e, ho] at hd2; cases hd2
    show setF r.waits o.1 true d = false
    rw [setF_other _ _ e]
    exact h.out d hd
  · have e : d ≠ o.1 := fun e => by rw [e, hP] at hp; cases hp
    show setF r.waits o.1 true d = true ∧ x = lkOf (setF r.op o.1 o d)
    rw [setF_other _ _ e, setF_other _ _ e]
    exact h.pend d x hp hq
  · show isLock (lkOf (setF r.op o.1 o d)) = true ∧ (setF r.op o.1 o d).1 = d
    by_cases e : d = o.1
    · rw [e, setF_same]; exact ⟨hl, rfl⟩
    · have hd2 : setF r.waits o.1 true d = true := hd
      rw [setF_other _ _ e] at hd2 ⊢
      exact h.lock d hd2
theorem doW_fits {doF : Runr → Op3 → Runr} (hO : DoOk doF) (hF : DoFits doF) (way : Int) : DoFits (doW way doF) := by
  intro r o P hg h ho hw hop
  unfold doW
  split
  · exact free_fits hO hF (free_good (tell_ok hg o).1 o.1) ((h.told _).but hw)
  · rename_i ha
    have hl := op_lock hop ha
    rcases ask_new (s := r.tab) (x := lkOf o) hl (h.calm hw) with ⟨h1, h2, -⟩ | h1
    · have h1' : (askT r.tab (o.1, o.2.2, o.2.1)).1.1 = true := h1
      rw [if_pos h1']
      exact (h.held (ask_ok h.ok (lkOf o)) h2).told _
    · have h1' : (askT r.tab (o.1, o.2.2, o.2.1)) = ((false, 0), (r.tab.1, r.tab.2 ++ [lkOf o])) := h1
      rw [if_neg (by rw [h1']; simp)]
      obtain ⟨a1, a6⟩ := isOp_range hop
      exact way_fits hO hF way o.1 _ (wait_ok hg ho hw a1 a6).1 (h.wait ho hw hl h1) a1 a6 ho
theorem doN_fits (way : Int) : ∀ n, DoFits (doN way n) := by
  intro n
  induction n with
  | zero => intro r o P _ h _ _ _; exact h
  | succ n ih => exact doW_fits (doN_ok way n) ih way
theorem come_fits (way : Int) {r : Runr} {P : Int → Option Op3} {o : Op3} (hg : Good r) (h : Fits r P) (hop : isOpB o = true) : Fits (comeR way r o) P := by
  unfold comeR
  split
  · exact h
  · rename_i ho
    split
    · exact h.behind _
    · rename_i hw
      exact doN_fits way 41 r o P hg h (by simpa using ho) (by simpa using hw) hop
theorem strict_fits (way : Int) (l : List Op3) (hop : ∀ o ∈ l, isOpB o = true) : ∀ k, k ≤ l.length → Fits (strictR way (l.take k)) fun _ => none := by
  intro k
  induction k with
  | zero => intro _; exact fits0
  | succ k ih =>
    intro hk
    have e : strictR way (l.take (k + 1)) = comeR way (strictR way (l.take k)) l[k] := by
      unfold strictR
      rw [List.take_succ_eq_append_getElem (by omega), List.foldl_append]
      rfl
    rw [e]
    exact come_fits way (strict_ok way l hop k (by omega)).1 (ih (by omega)) (hop _ (List.getElem_mem (show k < l.length by omega)))
/-- Of those for whom one waits the first is the oldest. -/
theorem die_iff {α : Type} (a b : α) (t : Int) : ∀ {l : List Int}, l.Pairwise (· < ·) → (match l with | [] => b | x :: _ => if x < t then a else b) = if (l.any fun x => decide (x < t)) = true then a else b := by
  intro l h
  cases l with
  | nil => rfl
  | cons x q =>
    rw [List.pairwise_cons] at h
    have e : ((x :: q).any fun x => decide (x < t)) = decide (x < t) := by
      show (decide (x < t) || q.any fun x => decide (x < t)) = decide (x < t)
      by_cases hx : x < t
      · simp [hx]
      · simp only [hx, decide_false, Bool.false_or, List.any_eq_false, decide_eq_true_eq]
        intro y hy
        have := h.1 y hy
        omega
    rw [e]
    simp only [decide_eq_true_eq]
end Go.Proofs.YtmjjiehnjghndaaGreat

namespace Go.Proofs.YtmjjiehnjghndaaGreat

/-- The place of the last Write of an item among the first k. -/
def wrTo (l : List Op3) (x : Int) : Nat → Option Nat
  | 0 => none
  | k + 1 => if (opAt l k).2.1 = 2 ∧ (opAt l k).2.2 = x then some k else wrTo l x k
theorem wrTo_hit {l : List Op3} {x : Int} {k : Nat} (h1 : (opAt l k).2.1 = 2) (h2 : (opAt l k).2.2 = x) : wrTo l x (k + 1) = some k := by simp [wrTo, h1, h2]
theorem wrTo_pass {l : List Op3} {x : Int} {k : Nat} (h : ¬ ((opAt l k).2.1 = 2 ∧ (opAt l k).2.2 = x)) : wrTo l x (k + 1) = wrTo l x k := by rw [wrTo, if_neg h]
theorem wrTo_some {l : List Op3} {x : Int} : ∀ {k j : Nat}, wrTo l x k = some j → j < k ∧ (opAt l j).2.1 = 2 ∧ (opAt l j).2.2 = x ∧ ∀ i, j < i → i < k → ¬ ((opAt l i).2.1 = 2 ∧ (opAt l i).2.2 = x) := by
  intro k
  induction k with
  | zero => intro j h; cases h
  | succ k ih =>
    intro j h
    by_cases hk : (opAt l k).2.1 = 2 ∧ (opAt l k).2.2 = x
    · rw [wrTo_hit hk.1 hk.2] at h
      obtain rfl := Option.some.inj h
      exact ⟨by omega, hk.1, hk.2, fun i h1 h2 => by omega⟩
    · rw [wrTo_pass hk] at h
      obtain ⟨h1, h2, h3, h4⟩ := ih h
      refine ⟨by omega, h2, h3, fun i i1 i2 => ?_⟩
      rcases Nat.lt_or_ge i k with e | e
      · exact h4 i i1 e
      · rw [show i = k by omega]; exact hk
theorem wrTo_none {l : List Op3} {x : Int} : ∀ {k : Nat}, wrTo l x k = none → ∀ i, i < k → ¬ ((opAt l i).2.1 = 2 ∧ (opAt l i).2.2 = x) := by
  intro k
  induction k with
  | zero => intro _ i hi; omega
  | succ k ih =>
    intro h i hi
    by_cases hk : (opAt l k).2.1 = 2 ∧ (opAt l k).2.2 = x
    · rw [wrTo_hit hk.1 hk.2] at h; cases h
    · rw [wrTo_pass hk] at h
      rcases Nat.lt_or_ge i k with e | e
      · exact ih h i e
      · rw [show i = k by omega]; exact hk
/-- No name. -/
def zN : Op3 × Nat := ((0, 0, 0), 0)
/-- The name of the Write that was last of an item, among the first k. -/
def lastW (l : List Op3) (k : Nat) (x : Int) : Op3 × Nat := match wrTo l x k with | none => zN | some j => nameAt l j
theorem lastW_none {l : List Op3} {k : Nat} {x : Int} (h : wrTo l x k = none) : lastW l k x = zN := by rw [lastW, h]
theorem lastW_some {l : List Op3} {k j : Nat} {x : Int} (h : wrTo l x k = some j) : lastW l k x = nameAt l j := by rw [lastW, h]
/-- What an op reads. -/
def srcN (l : List Op3) (i : Nat) : Op3 × Nat := if (opAt l i).2.1 = 1 then lastW l i (opAt l i).2.2 else zN
/-- The program's answer: the same names, each reads the same, the same is left. -/
def seenB (h g : List Op3) (k : Nat) : Bool := (List.range h.length).any fun i => nameAt h i == nameAt g k && srcN h i == srcN g k
def leftB (h g : List Op3) : Bool := (List.range 7).all fun x => lastW h h.length ((x : Nat) : Int) == lastW g g.length ((x : Nat) : Int)
def sightB (h g : List Op3) : Bool := (g.length == h.length) && (List.range g.length).all (seenB h g) && leftB h g
theorem seenB_iff {h g : List Op3} {k : Nat} : seenB h g k = true ↔ ∃ i, i < h.length ∧ nameAt h i = nameAt g k ∧ srcN h i = srcN g k := by simp [seenB]
theorem leftB_iff {h g : List Op3} : leftB h g = true ↔ ∀ x : Nat, x < 7 → lastW h h.length x = lastW g g.length x := by simp [leftB]
theorem sightB_iff {h g : List Op3} : sightB h g = true ↔ g.length = h.length ∧ (∀ k, k < g.length → seenB h g k = true) ∧ leftB h g = true := by simp [sightB, and_assoc]
/-- The statements' answer, for one Read. -/
def readOk (h g : List Op3) (i : Nat) : Bool := match wrTo h (opAt h i).2.2 i, wrTo g (opAt g (spot h g i)).2.2 (spot h g i) with
  | none, none => true
  | some a, some b => (opAt h a).1 == (opAt g b).1 && nthAt h a == nthAt g b
  | _, _ => false
def lastTx (l : List Op3) (x : Int) : Int := (lastW l l.length x).1.1
/-- The statements' answer. -/
def Views (h g : List Op3) : Prop := dealsEq h g ∧ (∀ x : Int, 1 ≤ x → x ≤ 6 → lastTx h x = lastTx g x) ∧ ∀ i, i < h.length → (opAt h i).2.1 = 1 → readOk h g i = true
theorem isOp_deal {o : Op3} (h : isOpB o = true) : 1 ≤ o.1 ∧ o.1 ≤ 6 := by
  simp [isOpB] at h; omega
theorem isOp_item {o : Op3} (h : isOpB o = true) (h2 : o.2.1 = 1 ∨ o.2.1 = 2) : 1 ≤ o.2.2 ∧ o.2.2 ≤ 6 := by
  rcases h2 with e | e <;> simp [isOpB, endsB, e] at h <;> omega
theorem name_parts {h g : List Op3} {i k : Nat} (hn : nameAt h i = nameAt g k) : opAt h i = opAt g k ∧ nthAt h i = nthAt g k := by
  unfold nameAt at hn; simpa using hn
theorem name_of_nth {h g : List Op3} {a b : Nat} (hh : ∀ o ∈ h, isOpB o = true) (hd : dealsEq h g) (ha : a < h.length) (hb : b < g.length) (h1 : (opAt h a).1 = (opAt g b).1) (h2 : nthAt h a = nthAt g b) : nameAt h a = nameAt g b := by
  have e1 := of_nth ha
  have e2 := of_nth hb
  have hx := isOp_deal (hh _ (opAt_mem ha))
  rw [hd _ hx.1 hx.2, h1, h2, e2] at e1
  unfold nameAt
  rw [h2, Option.some.inj e1]
theorem name_ne {l : List Op3} {i : Nat} (hl : ∀ o ∈ l, isOpB o = true) (hi : i < l.length) : nameAt l i ≠ zN := fun h => by
  have h1 := isOp_deal (hl _ (opAt_mem hi))
  have h2 : (opAt l i).1 = 0 := by have := congrArg (·.1.1) h; simpa [nameAt, zN] using this
  omega
theorem nth_mono {l : List Op3} {i k : Nat} (h : i ≤ k) (he : (opAt l i).1 = (opAt l k).1) : nthAt l i ≤ nthAt l k := by
  unfold nthAt ofL
  rw [he]
  refine List.Sublist.length_le (List.Sublist.filter _ ?_)
  rw [show l.take i = (l.take k).take i by rw [List.take_take, Nat.min_eq_left h]]
  exact List.take_sublist _ _
theorem last_le {h g : List Op3} {a b : Nat} {x : Int} (hh : ∀ o ∈ h, isOpB o = true) (hd : dealsEq h g) (ha : wrTo h x h.length = some a) (hb : wrTo g x g.length = some b) (he : (opAt h a).1 = (opAt g b).1) : nthAt h a ≤ nthAt g b := by
  obtain ⟨a1, a2, a3, a4⟩ := wrTo_some ha
  obtain ⟨b1, b2, b3, b4⟩ := wrTo_some hb
  obtain ⟨k, k1, k2⟩ := named_of_deals (fun o ho => isOp_deal (hh o ho)) hd a a1
  obtain ⟨k3, k4⟩ := name_parts k2
  have hkb : k ≤ b := by
    rcases Nat.lt_or_ge b k with e | e
    · exact absurd ⟨by rw [k3]; exact a2, by rw [k3]; exact a3⟩ (b4 k e k1)
    · exact e
  rw [← k4]
  exact nth_mono hkb (by rw [k3, he])
theorem deals_symm {h g : List Op3} (hd : dealsEq h g) : dealsEq g h := fun t h1 h2 => (hd t h1 h2).symm
theorem wrTo_nought {l : List Op3} (hl : ∀ o ∈ l, isOpB o = true) : ∀ k, k ≤ l.length → wrTo l 0 k = none := by
  intro k
  induction k with
  | zero => intro _; rfl
  | succ k ih =>
    intro hk
    rw [wrTo_pass, ih (by omega)]
    rintro ⟨h1, h2⟩
    have := isOp_item (hl _ (opAt_mem (show k < l.length by omega))) (.inr h1)
    omega
/-- Both answers are one. -/
theorem views_sight {h g : List Op3} (hh : ∀ o ∈ h, isOpB o = true) (hg : ∀ o ∈ g, isOpB o = true) : Views h g ↔ sightB h g = true := by
  have th := fun o ho => isOp_deal (hh o ho)
  have tg := fun o ho => isOp_deal (hg o ho)
  rw [sightB_iff]
  constructor
  · rintro ⟨hd, hl, hr⟩
    have hlen := len_of_deals th tg hd
    refine ⟨hlen.symm, fun k hk => seenB_iff.2 ?_, leftB_iff.2 fun x hx => ?_⟩
    · obtain ⟨i, hi, hn⟩ := named_of_deals tg (deals_symm hd) k hk
      refine ⟨i, hi, hn, ?_⟩
      obtain ⟨n1, n2⟩ := name_parts hn
      unfold srcN
      rw [n1]
      by_cases hrd : (opAt g k).2.1 = 1
      · rw [if_pos hrd, if_pos hrd]
        have hsp : spot h g i = k := by unfold spot; rw [place_name hk hn.symm]; rfl
        have h1 := hr i hi (by rw [n1]; exact hrd)
        unfold readOk at h1
        rw [hsp, n1] at h1
        cases ha : wrTo h (opAt g k).2.2 i with
        | none =>
          cases hb : wrTo g (opAt g k).2.2 k with
          | none => rw [lastW_none ha, lastW_none hb]
          | some b => rw [ha, hb] at h1; cases h1
        | some a =>
          cases hb : wrTo g (opAt g k).2.2 k with
          | none => rw [ha, hb] at h1; cases h1
          | some b =>
            rw [ha, hb] at h1
            simp at h1
            rw [lastW_some ha, lastW_some hb]
            exact name_of_nth hh hd (by have := (wrTo_some ha).1; omega) (by have := (wrTo_some hb).1; omega) h1.1 h1.2
      · rw [if_neg hrd, if_neg hrd]
    · rcases Nat.eq_zero_or_pos x with e | e
      · subst e
        rw [show ((0 : Nat) : Int) = 0 from rfl, lastW_none (wrTo_nought hh _ (Nat.le_refl _)), lastW_none (wrTo_nought hg _ (Nat.le_refl _))]
      · have h1 := hl x (by omega) (by omega)
        unfold lastTx at h1
        cases ha : wrTo h (x : Int) h.length with
        | none =>
          cases hb : wrTo g (x : Int) g.length with
          | none => rw [lastW_none ha, lastW_none hb]
          | some b =>
            rw [lastW_none ha, lastW_some hb] at h1
            have := tg _ (opAt_mem (wrTo_some hb).1)
            simp [zN, nameAt] at h1
            omega
        | some a =>
          cases hb : wrTo g (x : Int) g.length with
          | none =>
            rw [lastW_some ha, lastW_none hb] at h1
            have := th _ (opAt_mem (wrTo_some ha).1)
            simp [zN, nameAt] at h1
            omega
          | some b =>
            rw [lastW_some ha, lastW_some hb] at h1 ⊢
            have h2 : (opAt h a).1 = (opAt g b).1 := h1
            have i1 := last_le hh hd ha hb h2
            have i2 := last_le hg (deals_symm hd) hb ha h2.symm
            exact name_of_nth hh hd (wrTo_some ha).1 (wrTo_some hb).1 h2 (by omega)
  · rintro ⟨hlen, hs, hl⟩
    have hn : Named g h := fun k hk => by
      obtain ⟨i, i1, i2, _⟩ := seenB_iff.1 (hs k hk)
      exact ⟨i, i1, i2⟩
    have hd : dealsEq h g := deals_symm (deals_of_named tg th hlen hn)
    refine ⟨hd, fun x h1 h6 => ?_, fun i hi hrd => ?_⟩
    · have := leftB_iff.1 hl x.toNat (by omega)
      rw [show ((x.toNat : Nat) : Int) = x by omega] at this
      unfold lastTx
      rw [this]
    · obtain ⟨k, hk, hkn⟩ := named_of_deals th hd i hi
      obtain ⟨i', i1, i2, i3⟩ := seenB_iff.1 (hs k hk)
      obtain rfl := name_inj i1 hi (i2.trans hkn)
      have hsp : spot h g i' = k := by unfold spot; rw [place_name hk hkn]; rfl
      obtain ⟨n1, n2⟩ := name_parts hkn
      unfold srcN at i3
      rw [n1, if_pos hrd, if_pos hrd] at i3
      unfold readOk
      rw [hsp, n1]
      cases ha : wrTo h (opAt h i').2.2 i' with
      | none =>
        cases hb : wrTo g (opAt h i').2.2 k with
        | none => rfl
        | some b =>
          rw [lastW_none ha, lastW_some hb] at i3
          exact absurd i3.symm (name_ne hg (by have := (wrTo_some hb).1; omega))
      | some a =>
        cases hb : wrTo g (opAt h i').2.2 k with
        | none =>
          rw [lastW_some ha, lastW_none hb] at i3
          exact absurd i3 (name_ne hh (by have := (wrTo_some ha).1; omega))
        | some b =>
          rw [lastW_some ha, lastW_some hb] at i3
          obtain ⟨m1, m2⟩ := name_parts i3
          simp [m1, m2]
/-- A beginning of an order: deals, each once. -/
structure Begun (ds b : List Int) : Prop where
  once : b.Nodup
  all : ∀ x ∈ b, x ∈ ds
theorem Begun.nil (ds : List Int) : Begun ds [] := ⟨List.nodup_nil, fun x hx => by cases hx⟩
end Go.Proofs.YtmjjiehnjghndaaGreat
