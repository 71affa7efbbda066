/-
  PROVED HERE: plain facts, with no word of the program: what is told by keeping locks (chapter 9) is a history, and rigorous: each op that is told of a deal which has not ended has its lock, and those that are held are at odds with none; who was aborted ends so; so it has an order.
  Conditions: what was asked is right.
  (Of these, what the claim wants: the rest was left out.)
  PROVED HERE: nothing yet of package strict: what its Run is asked to answer (StrictC), for the laws that call it; how long that can be.
  Conditions: none.
  (Of these, what the claim wants: the rest was left out.)
-/
import Derived.Test.YtmjjiehnjghndaaGreatMgas
import Derived.Test.YtmjjiehnjghndaaGreatMgat
import Derived.Test.YtmjjiehnjghndaaGreatMgap
import Derived.Test.YtmjjiehnjghndaaGreatMgae
import Derived.Test.YtmjjiehnjghndaaGreatMgad
namespace Go.Proofs.YtmjjiehnjghndaaGreat

/-- No op of a row but its last one ends a deal. -/
def EndLast (s : List Op3) : Prop := s.Pairwise fun a _ => endsB a.2.1 = false
def seqR (r : Runr) (d : Int) : List Op3 := ofL r.told d ++ ((if r.waits d = true then [r.op d] else []) ++ r.behind d)
/-- A deal has a lock that an op needs. -/
def HasLk (s : Tab2) (o : Op3) : Prop := ∃ y ∈ s.1, y.1 = o.1 ∧ y.2.1 = o.2.2 ∧ o.2.1 ≤ y.2.2
structure Rig (r : Runr) (P : Int → Option Op3) : Prop where
  ops : ∀ o ∈ r.told, isOpB o = true
  calm : Calm r.told
  rig : rigB r.told = true
  hold : ∀ o ∈ r.told, o.2.1 ≤ 2 → endedIn r.told o.1 = false → HasLk r.tab o
  pend : ∀ d x, P d = some x → r.out d = false → HasLk r.tab (lkOf x)
  live : ∀ y ∈ r.tab.1, endedIn r.told y.1 = false
  wok : ∀ d, r.waits d = true → isOpB (r.op d) = true ∧ (r.op d).2.1 ≤ 2
  gone : ∀ d, r.out d = true → (d, 4, 0) ∈ r.told
theorem rig0 : Rig run0 fun _ => none := ⟨fun o h => (by cases h), List.Pairwise.nil, rfl, fun o h => (by cases h), fun d x h => (by cases h), fun y h => (by cases h), fun d h => (by cases h), fun d h => (by cases h)⟩
theorem endLast_cons {s q : List Op3} {o : Op3} (h : EndLast (s ++ o :: q)) : (∀ a ∈ s, endsB a.2.1 = false) ∧ (endsB o.2.1 = true → q = []) := by
  have h1 := List.pairwise_append.1 h
  refine ⟨fun a ha => h1.2.2 a ha o List.mem_cons_self, fun he => ?_⟩
  cases q with
  | nil => rfl
  | cons p q =>
    have h2 := (List.pairwise_cons.1 h1.2.1).1 p List.mem_cons_self
    rw [he] at h2
    cases h2
theorem not_ended {l : List Op3} {t : Int} (h : ∀ a ∈ ofL l t, endsB a.2.1 = false) : endedIn l t = false := by
  rw [endedIn_false]
  rintro o ho ⟨h1, h2⟩
  have := h o (List.mem_filter.2 ⟨ho, by simpa using h1⟩)
  rw [h2] at this
  cases this
/-- What is told of a deal, what it waits for, and what stands behind, is what it asked. -/
def SeqR (r : Runr) (S : Int → List Op3) : Prop := ∀ d, r.out d = false → seqR r d = S d
/-- .. with one op on its way. -/
def SeqF (r : Runr) (S : Int → List Op3) (o : Op3) : Prop := (∀ d, d ≠ o.1 → r.out d = false → seqR r d = S d) ∧ ofL r.told o.1 ++ o :: r.behind o.1 = S o.1
theorem open_wait {r : Runr} {S : Int → List Op3} (hS : ∀ d, EndLast (S d)) (h : SeqR r S) {d : Int} (ho : r.out d = false) (hw : r.waits d = true) : endedIn r.told d = false := by
  have h1 := h d ho
  have h2 := hS d
  rw [← h1] at h2
  unfold seqR at h2
  rw [if_pos hw] at h2
  exact not_ended (endLast_cons h2).1
theorem rig_snoc {l : List Op3} {o : Op3} (h : rigB l = true) (ho : rigAt (l ++ [o]) l.length = true) : rigB (l ++ [o]) = true := by
  refine all_at.2 fun i hi => ?_
  rw [List.length_append, List.length_singleton] at hi
  by_cases he : i = l.length
  · rw [he]; exact ho
  · have h1 := all_at.1 h i (by omega)
    have e : (l ++ [o]).take l.length = l := by simp
    have h2 := openB_take (h := l ++ [o]) (n := l.length) (i := i) (by omega)
    have h3 := opAt_take (h := l ++ [o]) (n := l.length) (k := i) (by omega)
    rw [e] at h2 h3
    unfold rigAt at h1 ⊢
    rw [← h3, ← h2, ← h2]
    exact h1
theorem endBy_end {l : List Op3} {o : Op3} {t : Int} (hop : ∀ x ∈ l, isOpB x = true) : endBy (l ++ [o]) t l.length = 0 ↔ endedIn l t = false := by
  unfold endBy
  rw [show (l ++ [o]).take l.length = l by simp]
  exact endOf_ended l t hop
/-- Two locks of two deals on one item are both shared. -/
theorem peace_two {s : Tab2} (h : TabOk s) {y z : Op3} (hy : y ∈ s.1) (hz : z ∈ s.1) (hne : y.1 ≠ z.1) (hx : y.2.1 = z.2.1) : y.2.2 ≠ 2 ∧ z.2.2 ≠ 2 := by
  have key : lodd y z = false := by
    obtain ⟨i, hi, rfl⟩ := List.getElem_of_mem hy
    obtain ⟨j, hj, rfl⟩ := List.getElem_of_mem hz
    have hp := List.pairwise_iff_getElem.1 h.held
    rcases Nat.lt_trichotomy i j with e | e | e
    · exact (hp i j hi hj e).1
    · subst e; exact absurd rfl hne
    · exact (hp j i hj hi e).symm.1
  unfold lodd at key
  have h1 : (y.1 != z.1) = true := by simpa using hne
  rw [h1, hx] at key
  simp at key
  exact key
/-- An op is told of a deal that has its lock. -/
theorem tell_rigs {r : Runr} {P : Int → Option Op3} (h : Rig r P) (hT : TabOk r.tab) {o : Op3} (hl : HasLk r.tab o) : rigB (r.told ++ [o]) = true := by
  refine rig_snoc h.rig ?_
  have hlast : opAt (r.told ++ [o]) r.told.length = o := by simp [opAt, List.getD]
  have key : ∀ wh, (wh = 2 ∨ (wh = 1 ∧ o.2.1 = 2)) → openB (r.told ++ [o]) r.told.length wh = false := fun wh hw => by
    cases hb : openB (r.told ++ [o]) r.told.length wh with
    | false => rfl
    | true =>
      obtain ⟨m, m1, m2, m3, m4, m5⟩ := openB_iff.1 hb
      have hm : opAt (r.told ++ [o]) m = opAt r.told m := by simp [opAt, List.getD, List.getElem?_append_left m1]
      rw [hm] at m2 m3 m4 m5
      rw [hlast] at m3 m4
      rw [endBy_end h.ops] at m5
      obtain ⟨y, hy, y1, y2, y3⟩ := h.hold _ (opAt_mem m1) (by omega) m5
      obtain ⟨z, hz, z1, z2, z3⟩ := hl
      obtain ⟨q1, q2⟩ := peace_two hT hy hz (by rw [y1, z1]; exact m4) (by rw [y2, z2]; exact m3)
      have ly := isLock_mode (hT.locks.1 y hy)
      have lz := isLock_mode (hT.locks.1 z hz)
      rcases hw with e | ⟨e, e2⟩
      · omega
      · omega
  unfold rigAt
  rw [hlast, key 2 (.inl rfl)]
  by_cases h2 : o.2.1 = 2
  · rw [key 1 (.inr ⟨rfl, h2⟩)]; simp
  · simp [h2]
/-- An end is told. -/
theorem end_rigs {r : Runr} {P : Int → Option Op3} (h : Rig r P) {o : Op3} (hk : 3 ≤ o.2.1) : rigB (r.told ++ [o]) = true := by
  refine rig_snoc h.rig ?_
  have hlast : opAt (r.told ++ [o]) r.told.length = o := by simp [opAt, List.getD]
  unfold rigAt
  rw [hlast, decide_eq_false (by omega)]
  rfl
theorem HasLk.hold {s : List Op3} {t : List Op3} {x o : Op3} (h : HasLk (s, t) o) (hm : ∀ u ∈ s, likeL u x = true → u.2.2 ≤ x.2.2) : HasLk (holdL s x, t) o := by
  obtain ⟨y, hy, y1, y2, y3⟩ := h
  cases hl : likeL y x with
  | false => exact ⟨y, holdL_keep hy hl, y1, y2, y3⟩
  | true =>
    obtain ⟨e1, e2⟩ := likeL_iff.1 hl
    have := hm y hy hl
    exact ⟨x, holdL_mem s x, by rw [← e1]; exact y1, by rw [← e2]; exact y2, by omega⟩
theorem grants_has : ∀ (rest : List Op3) (s : Tab2) (acc : List Op3) (o : Op3), (rest.Pairwise fun a b => a.1 ≠ b.1) → (∀ x ∈ rest, ∀ u ∈ s.1, likeL u x = true → u.2.2 ≤ x.2.2) → HasLk s o → HasLk (grants (s, acc) rest).1 o := by
  intro rest
  induction rest with
  | nil => intro s acc o _ _ h; exact h
  | cons x rest ih =>
    intro s acc o hp hm h
    rw [List.pairwise_cons] at hp
    show HasLk (grants (grant (s, acc) x) rest).1 o
    unfold grant
    split
    · refine ih _ _ o hp.2 (fun z hz u hu hl => ?_) (HasLk.hold h (hm x List.mem_cons_self))
      rcases mem_holdL hu with rfl | hu
      · exact absurd (likeL_iff.1 hl).1 (hp.1 z hz)
      · exact hm z (List.mem_cons_of_mem _ hz) u hu hl
    · exact ih _ _ o hp.2 (fun z hz u hu hl => hm z (List.mem_cons_of_mem _ hz) u hu hl) h
theorem grants_got : ∀ (rest : List Op3) (s : Tab2) (acc : List Op3) (x : Op3), (rest.Pairwise fun a b => a.1 ≠ b.1) → (∀ x ∈ rest, ∀ u ∈ s.1, likeL u x = true → u.2.2 ≤ x.2.2) → x ∈ (grants (s, acc) rest).2 → x ∈ acc ∨ HasLk (grants (s, acc) rest).1 (lkOf x) := by
  intro rest
  induction rest with
  | nil => intro s acc x _ _ h; exact .inl h
  | cons y rest ih =>
    intro s acc x hp hm h
    rw [List.pairwise_cons] at hp
    have h' : x ∈ (grants (grant (s, acc) y) rest).2 := h
    show x ∈ acc ∨ HasLk (grants (grant (s, acc) y) rest).1 (lkOf x)
    unfold grant at h' ⊢
    split
    · rename_i hc
      rw [if_pos hc] at h'
      have hm2 : ∀ z ∈ rest, ∀ u ∈ holdL s.1 y, likeL u z = true → u.2.2 ≤ z.2.2 := fun z hz u hu hl => by
        rcases mem_holdL hu with rfl | hu
        · exact absurd (likeL_iff.1 hl).1 (hp.1 z hz)
        · exact hm z (List.mem_cons_of_mem _ hz) u hu hl
      rcases ih _ _ x hp.2 hm2 h' with h1 | h1
      · rcases List.mem_append.1 h1 with h2 | h2
        · exact .inl h2
        · rw [List.mem_singleton] at h2
          subst h2
          exact .inr (grants_has rest _ _ _ hp.2 hm2 ⟨x, holdL_mem _ _, rfl, rfl, Int.le_refl _⟩)
      · exact .inr h1
    · rename_i hc
      rw [if_neg hc] at h'
      exact ih _ _ x hp.2 (fun z hz u hu hl => hm z (List.mem_cons_of_mem _ hz) u hu hl) h'
theorem free_pre {s : Tab2} (h : TabOk s) (t : Int) : ((withoutL s.2 t).Pairwise fun a b => a.1 ≠ b.1) ∧ ∀ x ∈ withoutL s.2 t, ∀ u ∈ withoutL s.1 t, likeL u x = true → u.2.2 ≤ x.2.2 :=
  ⟨h.deals.sublist List.filter_sublist, fun x hx u hu hl => by have := h.more x (List.mem_filter.1 hx).1 u (List.mem_filter.1 hu).1 hl; omega⟩
/-- Who has a lock has it when another one was freed. -/
theorem free_has {s : Tab2} (h : TabOk s) {t : Int} {o : Op3} (hne : o.1 ≠ t) (hl : HasLk s o) : HasLk (freeT s t).1 o := by
  obtain ⟨p1, p2⟩ := free_pre h t
  obtain ⟨y, hy, y1, y2, y3⟩ := hl
  exact grants_has _ _ _ o p1 p2 ⟨y, List.mem_filter.2 ⟨hy, by rw [y1]; simpa using hne⟩, y1, y2, y3⟩
theorem free_got {s : Tab2} (h : TabOk s) {t : Int} {x : Op3} (hx : x ∈ (freeT s t).2) : HasLk (freeT s t).1 (lkOf x) := by
  obtain ⟨p1, p2⟩ := free_pre h t
  rcases grants_got _ _ _ x p1 p2 hx with h1 | h1
  · cases h1
  · exact h1
/-- .. but for one deal that has ended and whose locks are to be freed. -/
structure RigBut (r : Runr) (P : Int → Option Op3) (t : Int) : Prop where
  ops : ∀ o ∈ r.told, isOpB o = true
  calm : Calm r.told
  rig : rigB r.told = true
  hold : ∀ o ∈ r.told, o.2.1 ≤ 2 → endedIn r.told o.1 = false → HasLk r.tab o
  pend : ∀ d x, P d = some x → r.out d = false → HasLk r.tab (lkOf x)
  live : ∀ y ∈ r.tab.1, y.1 ≠ t → endedIn r.told y.1 = false
  wok : ∀ d, r.waits d = true → isOpB (r.op d) = true ∧ (r.op d).2.1 ≤ 2
  gone : ∀ d, r.out d = true → (d, 4, 0) ∈ r.told
  over : endedIn r.told t = true
theorem free_rig0 {r : Runr} {P : Int → Option Op3} {S : Int → List Op3} {t : Int} (hS : ∀ d, EndLast (S d)) (hf : FitsBut r P t) (h : RigBut r P t) (hq : SeqR r S) : Rig { r with tab := (freeT r.tab t).1 } (addP P (freeT r.tab t).2) ∧ SeqR { r with tab := (freeT r.tab t).1 } S := by
  refine ⟨⟨h.ops, h.calm, h.rig, fun o ho h2 he => free_has hf.ok (fun e => ?_) (h.hold o ho h2 he), fun d x hp ho => ?_, fun y hy => ?_, h.wok, h.gone⟩, hq⟩
  · have he' : endedIn r.told o.1 = false := he
    rw [e, h.over] at he'
    cases he'
  · rcases addP_some hp with ⟨h1, _⟩ | h1
    · exact free_got hf.ok h1
    · obtain ⟨k1, k2⟩ := hf.pend d x h1 ho
      refine free_has hf.ok (fun e => ?_) (h.pend d x h1 ho)
      have e2 : (lkOf x).1 = d := by rw [k2]; exact (hf.lock d k1).2
      rw [e2] at e
      rw [e, hf.not] at k1
      cases k1
  · obtain ⟨h1, h2⟩ := mem_free.1 hy
    rcases h1 with h1 | h1
    · exact h.live y h1 h2
    · have h3 := (hf.tab y h1 h2).1
      refine open_wait hS hq ?_ h3
      cases ho : r.out y.1 with
      | false => rfl
      | true => rw [hf.out _ ho] at h3; cases h3
def DoRig (K : Nat) (doF : Runr → Op3 → Runr) : Prop := ∀ r o P S, (∀ d, EndLast (S d)) → sum6 r.behind < K → Good r → Fits r P → Rig r P → SeqF r S o → r.out o.1 = false → r.waits o.1 = false → isOpB o = true → Rig (doF r o) P ∧ SeqR (doF r o) S
theorem ended_more {l : List Op3} {o : Op3} (ho : o.2.1 ≤ 2) (t : Int) : endedIn (l ++ [o]) t = endedIn l t := by
  rw [ended_snoc]
  have : endsB o.2.1 = false := by unfold endsB; simp; omega
  rw [this]; simp
theorem drain_rig {doF : Runr → Op3 → Runr} (hO : DoOk doF) (hF : DoFits doF) {K : Nat} (hR : DoRig K doF) {P : Int → Option Op3} {S : Int → List Op3} (hS : ∀ d, EndLast (S d)) (d : Int) (h1 : 1 ≤ d) (h6 : d ≤ 6) : ∀ (m : Nat) (r : Runr), sum6 r.behind ≤ K → Good r → Fits r P → Rig r P → SeqR r S → Rig (drainN doF d m r) P ∧ SeqR (drainN doF d m r) S := by
  intro m
  induction m with
  | zero => intro r _ _ _ h hq; exact ⟨h, hq⟩
  | succ m ih =>
    intro r hK hg hf h hq
    unfold drainN
    split
    · exact ⟨h, hq⟩
    · rename_i hw
      split
      · exact ⟨h, hq⟩
      · rename_i o q hb
        obtain ⟨p1, p2, p3, p4, p5, p6⟩ := pop_ok hg h1 h6 hb
        have hw' : r.waits d = false := by simpa using hw
        have ho : (popR r d q).out o.1 = false := by rw [p4]; exact p6
        have hw2 : (popR r d q).waits o.1 = false := by rw [p4]; exact hw'
        have hs := hO (popR r d q) o p1 ho hw2 p5
        have hff := hF (popR r d q) o P p1 (hf.behind _) ho hw2 p5
        have hseq : SeqF (popR r d q) S o := by
          refine ⟨fun e he heo => ?_, ?_⟩
          · rw [← hq e heo]
            show ofL r.told e ++ (_ ++ setF r.behind d q e) = ofL r.told e ++ (_ ++ r.behind e)
            rw [setF_other _ _ (by rw [← p4]; exact he)]
            rfl
          · rw [p4, ← hq d p6]
            show ofL r.told d ++ o :: setF r.behind d q d = ofL r.told d ++ (_ ++ r.behind d)
            rw [setF_same, hb, if_neg (by rw [hw']; decide)]
            rfl
        have hr := hR (popR r d q) o P S hS (by omega) p1 (hf.behind _) ⟨h.ops, h.calm, h.rig, h.hold, h.pend, h.live, h.wok, h.gone⟩ hseq ho hw2 p5
        exact ih _ (by show sum6 (doF (popR r d q) o).behind ≤ K; have := sum_mono hs.less; omega) hs.good hff hr.1 hr.2
theorem got_rig {r : Runr} {P : Int → Option Op3} {S : Int → List Op3} {x : Op3} {l : List Op3} (hS : ∀ d, EndLast (S d)) (hf : Fits r (addP P (x :: l))) (h : Rig r (addP P (x :: l))) (hq : SeqR r S) (ho : r.out x.1 = false) (hl : ∀ y ∈ l, y.1 ≠ x.1) (hp : P x.1 = none) (hw : r.waits x.1 = true) (hx : x = lkOf (r.op x.1)) : Rig (gotR r x.1) (addP P l) ∧ SeqR (gotR r x.1) S := by
  obtain ⟨w1, w2⟩ := h.wok _ hw
  have hd : (r.op x.1).1 = x.1 := (hf.lock _ hw).2
  have hne := open_wait hS hq ho hw
  have hlk : HasLk r.tab (r.op x.1) := by
    have := h.pend x.1 x (addP_head P x l) ho
    rw [hx] at this
    exact this
  have hend : ∀ t, endedIn (r.told ++ [r.op x.1]) t = endedIn r.told t := ended_more w2
  refine ⟨⟨fun o ho => ?_, calm_snoc h.calm (by rw [hd]; exact hne), tell_rigs h hf.ok hlk, fun o ho h2 he => ?_, fun d y hy hdo => ?_, fun y hy => ?_, fun d hdw => ?_, fun d hdo => List.mem_append_left _ (h.gone d hdo)⟩, fun d hdo => ?_⟩
  · rcases List.mem_append.1 ho with h1 | h1
    · exact h.ops o h1
    · rw [List.mem_singleton.1 h1]; exact w1
  · have he' : endedIn (r.told ++ [r.op x.1]) o.1 = false := he
    rw [hend] at he'
    rcases List.mem_append.1 ho with h1 | h1
    · exact h.hold o h1 h2 he'
    · rw [List.mem_singleton.1 h1]; exact hlk
  · by_cases e : d = x.1
    · rw [e, addP_off hl, hp] at hy; cases hy
    · exact h.pend d y (by rw [addP_tail P x l e]; exact hy) hdo
  · show endedIn (r.told ++ [r.op x.1]) y.1 = false
    rw [hend]; exact h.live y hy
  · have h3 : setF r.waits x.1 false d = true := hdw
    have e : d ≠ x.1 := fun e => by rw [e, setF_same] at h3; cases h3
    rw [setF_other _ _ e] at h3
    exact h.wok d h3
  · rw [← hq d hdo]
    show ofL (r.told ++ [r.op x.1]) d ++ ((if setF r.waits x.1 false d = true then [r.op d] else []) ++ r.behind d) = ofL r.told d ++ ((if r.waits d = true then [r.op d] else []) ++ r.behind d)
    rw [of_snoc, hd]
    by_cases e : d = x.1
    · rw [e, setF_same, if_pos rfl, if_neg (by decide), if_pos hw]
      simp
    · rw [setF_other _ _ e, if_neg (fun e2 => e e2.symm)]
      simp
theorem grants_rig {doF : Runr → Op3 → Runr} (hO : DoOk doF) (hF : DoFits doF) {K : Nat} (hR : DoRig K doF) {P : Int → Option Op3} {S : Int → List Op3} (hS : ∀ d, EndLast (S d)) : ∀ (l : List Op3) (r : Runr), sum6 r.behind ≤ K → Good r → Fits r (addP P l) → Rig r (addP P l) → SeqR r S → (l.Pairwise fun a b => a.1 ≠ b.1) → (∀ x ∈ l, P x.1 = none) → Rig (l.foldl (grantR doF) r) P ∧ SeqR (l.foldl (grantR doF) r) S := by
  intro l
  induction l with
  | nil => intro r _ _ _ h hq _ _; exact ⟨h, hq⟩
  | cons x l ih =>
    intro r hK hg hf h hq hp hn
    rw [List.pairwise_cons] at hp
    have hl : ∀ y ∈ l, y.1 ≠ x.1 := fun y hy e => hp.1 y hy e.symm
    have hgs := grant_ok hO x r hg
    have hg1 := hgs.good
    have hK1 : sum6 (grantR doF r x).behind ≤ K := by have := sum_mono hgs.less; omega
    have hn0 := hn x List.mem_cons_self
    have hn1 : ∀ y ∈ l, P y.1 = none := fun y hy => hn y (List.mem_cons_of_mem _ hy)
    rw [List.foldl_cons]
    cases ho : r.out x.1 with
    | true =>
      rw [grantR_no (hf.out _ ho)]
      refine ih r hK hg (hf.skip ho hl hn0) ⟨h.ops, h.calm, h.rig, h.hold, fun d y hy hdo => ?_, h.live, h.wok, h.gone⟩ hq hp.2 hn1
      have e : d ≠ x.1 := fun e => by rw [e, ho] at hdo; cases hdo
      exact h.pend d y (by rw [addP_tail P x l e]; exact hy) hdo
    | false =>
      obtain ⟨k1, k2, k3⟩ := hf.got ho hl hn0
      have hr := hg.wait x.1 k1
      obtain ⟨g1, g2⟩ := got_rig hS hf h hq ho hl hn0 k1 k2
      have hd := drain_rig hO hF hR hS x.1 hr.1 hr.2 ((gotR r x.1).behind x.1).length (gotR r x.1) hK (got_ok hg k1).1 k3 g1 g2
      have hdf := drain_fits hO hF (P := addP P l) x.1 hr.1 hr.2 ((gotR r x.1).behind x.1).length (gotR r x.1) (got_ok hg k1).1 k3
      rw [grantR_yes k1] at hg1 hK1 ⊢
      exact ih _ hK1 hg1 hdf hd.1 hd.2 hp.2 hn1
theorem free_rig {doF : Runr → Op3 → Runr} (hO : DoOk doF) (hF : DoFits doF) {K : Nat} (hR : DoRig K doF) {P : Int → Option Op3} {S : Int → List Op3} (hS : ∀ d, EndLast (S d)) {r : Runr} {t : Int} (hK : sum6 r.behind ≤ K) (hg : Good { r with tab := (freeT r.tab t).1 }) (hf : FitsBut r P t) (h : RigBut r P t) (hq : SeqR r S) : Rig (freeR doF r t) P ∧ SeqR (freeR doF r t) S := by
  have hap := free_apart hf.ok t
  rw [List.pairwise_append] at hap
  obtain ⟨h1, h2⟩ := free_rig0 hS hf h hq
  exact grants_rig hO hF hR hS _ _ hK hg hf.free h1 h2 hap.2.1 hf.idle
theorem ended_self {l : List Op3} {o : Op3} (h : endsB o.2.1 = true) : endedIn (l ++ [o]) o.1 = true := by
  rw [ended_snoc, h]; simp
/-- An end is told: then locks are to be freed. -/
theorem over_rig {r : Runr} {P : Int → Option Op3} (h : Rig r P) {o : Op3} (hop : isOpB o = true) (hk : 3 ≤ o.2.1) (hne : endedIn r.told o.1 = false) : RigBut { r with told := r.told ++ [o] } P o.1 := by
  have he : endsB o.2.1 = true := by rw [isOp_ends hop]; simpa using hk
  have hsn : ∀ t, t ≠ o.1 → endedIn (r.told ++ [o]) t = endedIn r.told t := fun t ht => by
    rw [ended_snoc]
    have : (o.1 == t) = false := beq_eq_false_iff_ne.2 fun e => ht e.symm
    rw [this]; simp
  refine ⟨fun x hx => ?_, calm_snoc h.calm hne, end_rigs h hk, fun x hx h2 he2 => ?_, h.pend, fun y hy hyn => ?_, h.wok, fun d hd => List.mem_append_left _ (h.gone d hd), ended_self he⟩
  · rcases List.mem_append.1 hx with h1 | h1
    · exact h.ops x h1
    · rw [List.mem_singleton.1 h1]; exact hop
  · have he3 : endedIn (r.told ++ [o]) x.1 = false := he2
    rcases List.mem_append.1 hx with h1 | h1
    · have hx1 : x.1 ≠ o.1 := fun e => by rw [e, ended_self he] at he3; cases he3
      rw [hsn _ hx1] at he3
      exact h.hold x h1 h2 he3
    · rw [List.mem_singleton.1 h1] at h2; omega
  · show endedIn (r.told ++ [o]) y.1 = false
    rw [hsn _ hyn]; exact h.live y hy
theorem abort_rig {doF : Runr → Op3 → Runr} (hO : DoOk doF) (hF : DoFits doF) {K : Nat} (hR : DoRig K doF) {P : Int → Option Op3} {S : Int → List Op3} (hS : ∀ d, EndLast (S d)) {r : Runr} {t : Int} (hK : sum6 r.behind ≤ K) (hg : Good r) (hf : Fits r P) (h : Rig r P) (hq : SeqR r S) (h1 : 1 ≤ t) (h6 : t ≤ 6) (ho : r.out t = false) (hne : endedIn r.told t = false) : Rig (abortR doF r t) P ∧ SeqR (abortR doF r t) S := by
  have hop : isOpB ((t, 4, 0) : Op3) = true := by simp [isOpB, endsB]; omega
  have hb := over_rig h (o := (t, 4, 0)) hop (show (3 : Int) ≤ 4 by decide) hne
  have hKa : sum6 (abort0 r t).behind ≤ K := by
    have : sum6 (setF r.behind t []) ≤ sum6 r.behind := sum_mono fun d => by
      unfold setF
      split
      · simp
      · exact Nat.le_refl _
    exact Nat.le_trans this hK
  refine free_rig hO hF hR hS hKa (abort_good hg h1 h6 ho) (hf.abort ho) ⟨hb.ops, hb.calm, hb.rig, hb.hold, fun d x hx hd => ?_, hb.live, fun d hd => ?_, fun d hd => ?_, hb.over⟩ (fun d hd => ?_)
  · have hd2 : setF r.out t true d = false := hd
    have e : d ≠ t := fun e => by rw [e, setF_same] at hd2; cases hd2
    rw [setF_other _ _ e] at hd2
    exact hb.pend d x hx hd2
  · have hd2 : setF r.waits t false d = true := hd
    have e : d ≠ t := fun e => by rw [e, setF_same] at hd2; cases hd2
    rw [setF_other _ _ e] at hd2
    exact h.wok d hd2
  · have hd2 : setF r.out t true d = true := hd
    by_cases e : d = t
    · rw [e]; exact List.mem_append_right _ List.mem_cons_self
    · rw [setF_other _ _ e] at hd2
      exact List.mem_append_left _ (h.gone d hd2)
  · have hd2 : setF r.out t true d = false := hd
    have e : d ≠ t := fun e => by rw [e, setF_same] at hd2; cases hd2
    rw [setF_other _ _ e] at hd2
    rw [← hq d hd2]
    show ofL (r.told ++ [(t, 4, 0)]) d ++ ((if setF r.waits t false d = true then [r.op d] else []) ++ setF r.behind t [] d) = ofL r.told d ++ ((if r.waits d = true then [r.op d] else []) ++ r.behind d)
    rw [setF_other _ _ e, setF_other _ _ e, of_snoc, if_neg (fun e2 => e e2.symm)]
    simp
theorem wound_rig {doF : Runr → Op3 → Runr} (hO : DoOk doF) (hF : DoFits doF) {K : Nat} (hR : DoRig K doF) {P : Int → Option Op3} {S : Int → List Op3} (hS : ∀ d, EndLast (S d)) (t : Int) : ∀ (n : Nat) (r : Runr), sum6 r.behind ≤ K → Good r → Fits r P → Rig r P → SeqR r S → Rig (woundN doF t n r) P ∧ SeqR (woundN doF t n r) S := by
  intro n
  induction n with
  | zero => intro r _ _ _ h hq; exact ⟨h, hq⟩
  | succ n ih =>
    intro r hK hg hf h hq
    unfold woundN
    split
    · exact ⟨h, hq⟩
    · rename_i v hv
      obtain ⟨k1, k2, k3⟩ := whom_deal hg (young_mem hv).1
      have hne : endedIn r.told v = false := by
        rcases mem_whom (young_mem hv).1 with ⟨y, hy, rfl⟩ | ⟨y, hy, rfl⟩
        · exact h.live y hy
        · exact open_wait hS hq k1 (hf.tab y hy).1
      have ha := abort_rig hO hF hR hS hK hg hf h hq k2 k3 k1 hne
      have hs := (abort_ok hO hg k2 k3 k1).1
      exact ih _ (by have := sum_mono hs.less; omega) hs.good (abort_fits hO hF hg hf k2 k3 k1) ha.1 ha.2
theorem way_rig {doF : Runr → Op3 → Runr} (hO : DoOk doF) (hF : DoFits doF) {K : Nat} (hR : DoRig K doF) {P : Int → Option Op3} {S : Int → List Op3} (hS : ∀ d, EndLast (S d)) (way t : Int) (r : Runr) (hK : sum6 r.behind ≤ K) (hg : Good r) (hf : Fits r P) (h : Rig r P) (hq : SeqR r S) (h1 : 1 ≤ t) (h6 : t ≤ 6) (ho : r.out t = false) (hw : r.waits t = true) : Rig (wayR way doF r t) P ∧ SeqR (wayR way doF r t) S := by
  have ha := abort_rig hO hF hR hS hK hg hf h hq h1 h6 ho (open_wait hS hq ho hw)
  unfold wayR
  split
  · split
    · exact ha
    · exact ⟨h, hq⟩
  · split
    · split
      · exact ⟨h, hq⟩
      · split
        · exact ha
        · exact ⟨h, hq⟩
    · exact wound_rig hO hF hR hS t 7 r hK hg hf h hq
/-- A lock that is got at once. -/
theorem ask_got {s : Tab2} {x : Op3} (h : (askT s x).1.1 = true) : HasLk (askT s x).2 (lkOf x) ∧ ∀ o, HasLk s o → HasLk (askT s x).2 o := by
  unfold askT at h ⊢
  split at h
  · cases h
  · rename_i c1
    rw [if_neg c1]
    split at h
    · cases h
    · rename_i c2
      rw [if_neg c2]
      split at h
      · rename_i c3
        rw [if_pos c3]
        refine ⟨?_, fun o ho => ho⟩
        obtain ⟨y, hy, h1⟩ := List.any_eq_true.1 c3
        simp only [Bool.and_eq_true, beq_iff_eq, decide_eq_true_eq] at h1
        exact ⟨y, hy, h1.1, h1.2.1, h1.2.2⟩
      · rename_i c3
        rw [if_neg c3]
        split at h
        · rename_i c4
          rw [if_pos c4]
          have h3 : hasL s.1 x = false := by simpa using c3
          refine ⟨⟨x, holdL_mem _ _, rfl, rfl, Int.le_refl _⟩, fun o ho => HasLk.hold (s := s.1) (t := s.2) ho fun u hu hl => ?_⟩
          have := hasL_not h3 u hu hl
          omega
        · cases h
theorem doW_rig {doF : Runr → Op3 → Runr} (hO : DoOk doF) (hF : DoFits doF) {K : Nat} (hR : DoRig K doF) (way : Int) : DoRig (K + 1) (doW way doF) := by
  intro r o P S hS hK hg hf h hq ho hw hop
  have hK' : sum6 r.behind ≤ K := by omega
  obtain ⟨a1, a6⟩ := isOp_range hop
  have hfl := hS o.1
  rw [← hq.2] at hfl
  obtain ⟨e1, e2⟩ := endLast_cons hfl
  have hne := not_ended e1
  have hseq : ∀ (r' : Runr), r'.out = r.out → r'.behind = r.behind → r'.told = r.told ++ [o] → r'.waits = r.waits → r'.op = r.op → SeqR r' S := fun r' q1 q2 q3 q4 q5 d hd => by
    rw [q1] at hd
    unfold seqR
    rw [q2, q3, q4, q5, of_snoc]
    by_cases e : d = o.1
    · rw [e, if_pos rfl, if_neg (by rw [hw]; decide), ← hq.2]
      simp
    · rw [if_neg (fun e2 => e e2.symm), ← hq.1 d e hd]
      unfold seqR
      simp
  unfold doW
  split
  · rename_i hk
    exact free_rig hO hF hR hS (r := { r with told := r.told ++ [o] }) hK' (free_good (tell_ok hg o).1 o.1) ((hf.told _).but hw) (over_rig h hop hk hne) (hseq _ rfl rfl rfl rfl rfl)
  · rename_i hk
    have hk2 : o.2.1 ≤ 2 := by omega
    have hl := op_lock hop hk
    rcases ask_new (s := r.tab) (x := lkOf o) hl (hf.calm hw) with ⟨h1, h2, -⟩ | h1
    · have h1' : (askT r.tab (o.1, o.2.2, o.2.1)).1.1 = true := h1
      rw [if_pos h1']
      obtain ⟨g1, g2⟩ := ask_got h1'
      have hT := ask_ok hf.ok (lkOf o)
      have hr : Rig { r with tab := (askT r.tab (o.1, o.2.2, o.2.1)).2 } P := by
        refine ⟨h.ops, h.calm, h.rig, fun x hx hx2 he => g2 _ (h.hold x hx hx2 he), fun d x hx hd => g2 _ (h.pend d x hx hd), fun y hy => ?_, h.wok, h.gone⟩
        rcases mem_ask.1 hy with h3 | h3
        · exact h.live y h3
        · rw [h3]; exact hne
      have hend : ∀ t, endedIn (r.told ++ [o]) t = endedIn r.told t := ended_more hk2
      refine ⟨⟨fun x hx => ?_, calm_snoc h.calm hne, tell_rigs hr hT g1, fun x hx hx2 he => ?_, hr.pend, fun y hy => ?_, h.wok, fun d hd => List.mem_append_left _ (h.gone d hd)⟩, hseq _ rfl rfl rfl rfl rfl⟩
      · rcases List.mem_append.1 hx with h3 | h3
        · exact h.ops x h3
        · rw [List.mem_singleton.1 h3]; exact hop
      · have he' : endedIn (r.told ++ [o]) x.1 = false := he
        rw [hend] at he'
        rcases List.mem_append.1 hx with h3 | h3
        · exact hr.hold x h3 hx2 he'
        · rw [List.mem_singleton.1 h3]; exact g1
      · show endedIn (r.told ++ [o]) y.1 = false
        rw [hend]; exact hr.live y hy
    · have h1' : (askT r.tab (o.1, o.2.2, o.2.1)) = ((false, 0), (r.tab.1, r.tab.2 ++ [lkOf o])) := h1
      rw [if_neg (by rw [h1']; simp)]
      have hwt : (wait0 r o).waits o.1 = true := setF_same _ _ _
      refine way_rig hO hF hR hS way o.1 _ hK' (wait_ok hg ho hw a1 a6).1 (hf.wait ho hw hl h1) ?_ (fun d hd => ?_) a1 a6 ho hwt
      · have et : (wait0 r o).tab.1 = r.tab.1 := by show (askT r.tab (o.1, o.2.2, o.2.1)).2.1 = _; rw [h1']
        have hh : ∀ x, HasLk r.tab x → HasLk (wait0 r o).tab x := fun x ⟨y, hy, hy2⟩ => ⟨y, by rw [et]; exact hy, hy2⟩
        refine ⟨h.ops, h.calm, h.rig, fun x hx hx2 he => hh _ (h.hold x hx hx2 he), fun d x hx hd => hh _ (h.pend d x hx hd), fun y hy => h.live y (by rw [← et]; exact hy), fun d hd => ?_, h.gone⟩
        show isOpB (setF r.op o.1 o d) = true ∧ (setF r.op o.1 o d).2.1 ≤ 2
        by_cases e : d = o.1
        · rw [e, setF_same]; exact ⟨hop, hk2⟩
        · have hd2 : setF r.waits o.1 true d = true := hd
          rw [setF_other _ _ e] at hd2 ⊢
          exact h.wok d hd2
      · have hd2 : r.out d = false := hd
        show ofL r.told d ++ ((if setF r.waits o.1 true d = true then [setF r.op o.1 o d] else []) ++ r.behind d) = S d
        by_cases e : d = o.1
        · rw [e, setF_same, setF_same, if_pos rfl, ← hq.2]
          simp
        · rw [setF_other _ _ e, setF_other _ _ e]
          exact hq.1 d e hd2
theorem doN_rig (way : Int) : ∀ n, DoRig n (doN way n) := by
  intro n
  induction n with
  | zero => intro r o P S _ hK; omega
  | succ n ih => exact doW_rig (doN_ok way n) (doN_fits way n) ih way
theorem endLast_of {l : List Op3} (h : Calm l) (d : Int) : EndLast (ofL l d) := by
  unfold EndLast
  refine List.pairwise_iff_forall_sublist.2 fun {a b} hab => ?_
  have h1 : a ∈ ofL l d := hab.subset (by simp)
  have h2 : b ∈ ofL l d := hab.subset (by simp)
  have h3 : a.1 = d := by simpa using (List.mem_filter.1 h1).2
  have h4 : b.1 = d := by simpa using (List.mem_filter.1 h2).2
  have h5 := List.pairwise_iff_forall_sublist.1 h (hab.trans List.filter_sublist)
  cases he : endsB a.2.1 with
  | false => rfl
  | true => exact absurd ⟨h3.trans h4.symm, he⟩ h5
/-- Who does not wait has nothing behind, but for some. -/
def Idle (r : Runr) (X : Int → Prop) : Prop := ∀ d, r.waits d = false → ¬ X d → r.behind d = []
def DoIdle (doF : Runr → Op3 → Runr) : Prop := ∀ r o X, Good r → r.out o.1 = false → r.waits o.1 = false → isOpB o = true → X o.1 → Idle r X → Idle (doF r o) X
theorem drain_idle {doF : Runr → Op3 → Runr} (hO : DoOk doF) (hI : DoIdle doF) {X : Int → Prop} (d : Int) (h1 : 1 ≤ d) (h6 : d ≤ 6) : ∀ (m : Nat) (r : Runr), (r.behind d).length ≤ m → Good r → Idle r (fun e => X e ∨ e = d) → Idle (drainN doF d m r) X := by
  intro m
  induction m with
  | zero =>
    intro r hm _ h e hw hx
    by_cases he : e = d
    · rw [he]; exact List.length_eq_zero_iff.1 (by show (r.behind d).length = 0; omega)
    · exact h e hw (fun hh => hh.elim hx he)
  | succ m ih =>
    intro r hm hg h
    unfold drainN
    split
    · rename_i hw
      intro e hwe hx
      have he : e ≠ d := fun he => by rw [he, hw] at hwe; cases hwe
      exact h e hwe (fun hh => hh.elim hx he)
    · rename_i hw
      split
      · rename_i hb
        intro e hwe hx
        by_cases he : e = d
        · rw [he]; exact hb
        · exact h e hwe (fun hh => hh.elim hx he)
      · rename_i o q hb
        obtain ⟨p1, p2, p3, p4, p5, p6⟩ := pop_ok hg h1 h6 hb
        have hw' : r.waits d = false := by simpa using hw
        have ho : (popR r d q).out o.1 = false := by rw [p4]; exact p6
        have hw2 : (popR r d q).waits o.1 = false := by rw [p4]; exact hw'
        have hs := hO (popR r d q) o p1 ho hw2 p5
        have hp : Idle (popR r d q) (fun e => X e ∨ e = d) := fun e hwe hx => by
          show setF r.behind d q e = []
          rw [setF_other _ _ (fun he => hx (.inr he))]
          exact h e hwe hx
        have hq : ((popR r d q).behind d).length = q.length := by show (setF r.behind d q d).length = _; rw [setF_same]
        rw [hb, List.length_cons] at hm
        have hl := hs.less d
        exact ih _ (by show ((doF (popR r d q) o).behind d).length ≤ m; omega) hs.good (hI (popR r d q) o _ p1 ho hw2 p5 (.inr p4) hp)
theorem grants_idle {doF : Runr → Op3 → Runr} (hO : DoOk doF) (hI : DoIdle doF) {X : Int → Prop} : ∀ (l : List Op3) (r : Runr), Good r → Idle r X → Idle (l.foldl (grantR doF) r) X := by
  intro l
  induction l with
  | nil => intro r _ h; exact h
  | cons x l ih =>
    intro r hg h
    rw [List.foldl_cons]
    refine ih _ (grant_ok hO x r hg).good ?_
    cases hw : r.waits x.1 with
    | false => rw [grantR_no hw]; exact h
    | true =>
      rw [grantR_yes hw]
      have hr := hg.wait x.1 hw
      refine drain_idle hO hI x.1 hr.1 hr.2 _ _ (Nat.le_refl _) (got_ok hg hw).1 (fun e hwe hx => ?_)
      have hwe2 : setF r.waits x.1 false e = false := hwe
      rw [setF_other _ _ (fun he => hx (.inr he))] at hwe2
      exact h e hwe2 (fun hh => hx (.inl hh))
theorem abort_idle {doF : Runr → Op3 → Runr} (hO : DoOk doF) (hI : DoIdle doF) {X : Int → Prop} {r : Runr} {t : Int} (hg : Good r) (h1 : 1 ≤ t) (h6 : t ≤ 6) (ho : r.out t = false) (h : Idle r X) : Idle (abortR doF r t) X := by
  refine grants_idle hO hI _ _ (abort_good hg h1 h6 ho) (fun e hwe hx => ?_)
  show setF r.behind t [] e = []
  by_cases he : e = t
  · rw [he, setF_same]
  · have hwe2 : setF r.waits t false e = false := hwe
    rw [setF_other _ _ he] at hwe2 ⊢
    exact h e hwe2 hx
theorem wound_idle {doF : Runr → Op3 → Runr} (hO : DoOk doF) (hI : DoIdle doF) {X : Int → Prop} (t : Int) : ∀ (n : Nat) (r : Runr), Good r → Idle r X → Idle (woundN doF t n r) X := by
  intro n
  induction n with
  | zero => intro r _ h; exact h
  | succ n ih =>
    intro r hg h
    unfold woundN
    split
    · exact h
    · rename_i v hv
      obtain ⟨k1, k2, k3⟩ := whom_deal hg (young_mem hv).1
      exact ih _ (abort_ok hO hg k2 k3 k1).1.good (abort_idle hO hI hg k2 k3 k1 h)
theorem way_idle {doF : Runr → Op3 → Runr} (hO : DoOk doF) (hI : DoIdle doF) {X : Int → Prop} (way t : Int) (r : Runr) (hg : Good r) (h1 : 1 ≤ t) (h6 : t ≤ 6) (ho : r.out t = false) (h : Idle r X) : Idle (wayR way doF r t) X := by
  have ha := abort_idle hO hI hg h1 h6 ho h
  unfold wayR
  split
  · split
    · exact ha
    · exact h
  · split
    · split
      · exact h
      · split
        · exact ha
        · exact h
    · exact wound_idle hO hI t 7 r hg h
theorem doW_idle {doF : Runr → Op3 → Runr} (hO : DoOk doF) (hI : DoIdle doF) (way : Int) : DoIdle (doW way doF) := by
  intro r o X hg ho hw hop hx h
  obtain ⟨a1, a6⟩ := isOp_range hop
  unfold doW
  split
  · exact grants_idle hO hI _ _ (free_good (tell_ok hg o).1 o.1) h
  · split
    · exact h
    · refine way_idle hO hI way o.1 _ (wait_ok hg ho hw a1 a6).1 a1 a6 ho (fun e hwe hxe => ?_)
      have hwe2 : setF r.waits o.1 true e = false := hwe
      have he : e ≠ o.1 := fun he => hxe (by rw [he]; exact hx)
      rw [setF_other _ _ he] at hwe2
      exact h e hwe2 hxe
theorem doN_idle (way : Int) : ∀ n, DoIdle (doN way n) := by
  intro n
  induction n with
  | zero => intro r o X _ _ _ _ _ h; exact h
  | succ n ih => exact doW_idle (doN_ok way n) ih way
theorem come_idle (way : Int) {r : Runr} {o : Op3} (hg : Good r) (hop : isOpB o = true) (h : Idle r fun _ => False) : Idle (comeR way r o) fun _ => False := by
  unfold comeR
  split
  · exact h
  · rename_i ho
    have ho' : r.out o.1 = false := by simpa using ho
    split
    · rename_i hw
      intro e hwe hx
      have he : e ≠ o.1 := fun he => by have hwe2 : r.waits e = false := hwe; rw [he, hw] at hwe2; cases hwe2
      show setF r.behind o.1 _ e = []
      rw [setF_other _ _ he]
      exact h e hwe hx
    · rename_i hw
      have hw' : r.waits o.1 = false := by simpa using hw
      have h1 := doN_idle way 41 r o (fun e => e = o.1) hg ho' hw' hop rfl (fun e hwe _ => h e hwe (fun hh => hh))
      have hs := doN_ok way 41 r o hg ho' hw' hop
      intro e hwe hx
      by_cases he : e = o.1
      · have hl := hs.less o.1
        rw [h o.1 hw' (fun hh => hh)] at hl
        rw [he]
        exact List.length_eq_zero_iff.1 (by simpa using hl)
      · exact h1 e hwe he
theorem come_rig (way : Int) {r : Runr} {l : List Op3} {o : Op3} (hg : Good r) (hf : Fits r fun _ => none) (h : Rig r fun _ => none) (hq : SeqR r (ofL l)) (hop : isOpB o = true) (hc : Calm (l ++ [o])) (hi : Idle r fun _ => False) (hK : sum6 r.behind ≤ 40) : Rig (comeR way r o) (fun _ => none) ∧ SeqR (comeR way r o) (ofL (l ++ [o])) := by
  have hsn : ∀ d, ofL (l ++ [o]) d = ofL l d ++ (if o.1 = d then [o] else []) := of_snoc l o
  unfold comeR
  split
  · rename_i ho
    refine ⟨h, fun d hd => ?_⟩
    have e : o.1 ≠ d := fun e => by rw [← e, ho] at hd; cases hd
    rw [hsn, if_neg e, List.append_nil]
    exact hq d hd
  · rename_i ho
    have ho' : r.out o.1 = false := by simpa using ho
    split
    · rename_i hw
      refine ⟨⟨h.ops, h.calm, h.rig, h.hold, h.pend, h.live, h.wok, h.gone⟩, fun d hd => ?_⟩
      show ofL r.told d ++ (_ ++ setF r.behind o.1 (r.behind o.1 ++ [o]) d) = _
      have hq' : ofL r.told d ++ ((if r.waits d = true then [r.op d] else []) ++ r.behind d) = ofL l d := hq d hd
      rw [hsn, ← hq']
      by_cases e : d = o.1
      · rw [e, setF_same]; simp
      · have e2 : ¬ o.1 = d := fun e2 => e e2.symm
        rw [setF_other _ _ e]; simp [e2]
    · rename_i hw
      have hw' : r.waits o.1 = false := by simpa using hw
      refine doN_rig way 41 r o _ (ofL (l ++ [o])) (endLast_of hc) (by omega) hg hf h ⟨fun d e hd => ?_, ?_⟩ ho' hw' hop
      · rw [hsn, if_neg (fun e2 => e e2.symm), List.append_nil]; exact hq d hd
      · rw [hsn, if_pos rfl, ← hq _ ho']
        unfold seqR
        rw [if_neg (by rw [hw']; decide)]
        have hb : r.behind o.1 = [] := hi o.1 hw' (fun hh => hh)
        rw [hb]; simp
theorem strict_rig_at (way : Int) {l : List Op3} (hop : ∀ o ∈ l, isOpB o = true) (hc : Calm l) (hl : l.length ≤ 33) : ∀ k, k ≤ l.length → Rig (strictR way (l.take k)) (fun _ => none) ∧ SeqR (strictR way (l.take k)) (ofL (l.take k)) ∧ Idle (strictR way (l.take k)) fun _ => False := by
  intro k
  induction k with
  | zero => intro _; exact ⟨rig0, fun d _ => rfl, fun d _ _ => rfl⟩
  | succ k ih =>
    intro hk
    obtain ⟨h1, h2, h3⟩ := ih (by omega)
    have hg := strict_ok way l hop k (by omega)
    have hf := strict_fits way l hop k (by omega)
    have e : strictR way (l.take (k + 1)) = comeR way (strictR way (l.take k)) l[k] := by
      unfold strictR
      rw [List.take_succ_eq_append_getElem (by omega), List.foldl_append]
      rfl
    have et : l.take (k + 1) = l.take k ++ [l[k]] := List.take_succ_eq_append_getElem (by omega)
    have hop1 := hop _ (List.getElem_mem (show k < l.length by omega))
    have hK : sum6 (strictR way (l.take k)).behind ≤ 40 := by
      have := hg.2
      unfold pot at this
      omega
    have hcc : Calm (l.take k ++ [l[k]]) := by rw [← et]; exact hc.sublist (List.take_sublist ..)
    have hr := come_rig way hg.1 hf h1 h2 hop1 hcc h3 hK
    rw [e, et]
    exact ⟨hr.1, hr.2, come_idle way hg.1 hop1 h3⟩
/-- What is told by keeping locks is right and rigorous, and has an order; who was aborted is not in it. -/
theorem strict_rig (way : Int) {l : List Op3} (hc : (chk l).2 = 0) (hl : l.length ≤ 33) : (chk (strictR way l).told).2 = 0 ∧ rigB (strictR way l).told = true ∧ (serOrd (doneL (strictR way l).told)).isSome = true ∧ ∀ d ∈ (strictR way l).vict, d ∉ dealsL (doneL (strictR way l).told) := by
  obtain ⟨_, hop, hcalm⟩ := (chk_iff l).1 hc
  obtain ⟨h1, h2, -⟩ := strict_rig_at way hop hcalm hl l.length (Nat.le_refl _)
  have hg := strict_ok way l hop l.length (Nat.le_refl _)
  have hf := strict_fits way l hop l.length (Nat.le_refl _)
  rw [List.take_length] at h1 h2 hg hf
  have hlen : (strictR way l).told.length ≤ 40 := by
    have := hg.2
    unfold pot at this
    omega
  have hch : (chk (strictR way l).told).2 = 0 := (chk_iff _).2 ⟨hlen, h1.ops, h1.calm⟩
  have hcom := com_sort hch
  refine ⟨hch, h1.rig, ?_, fun d hd hin => ?_⟩
  · cases hs : serOrd (doneL (strictR way l).told) with
    | some o => rfl
    | none =>
      refine absurd (rig_keeps hch h1.rig) (none_keeps (edges_right _ 36) (serOrd_none.1 hs) (order_once hcom) fun x hx => ?_)
      have := (order_mem hcom).1 hx
      exact ⟨(dealsTo_mem _ 6 x this).1, (dealsTo_mem _ 6 x this).2.1⟩
  · have ha := h1.gone d ((hf.vict d).2 hd)
    have h3 := (order_mem hcom).2 hin
    obtain ⟨o, ho, hod⟩ := List.mem_map.1 h3
    obtain ⟨ho1, ho2⟩ := List.mem_filter.1 ho
    have h3' : o.2.1 = 3 := by simpa using ho2
    obtain ⟨i, hi, ei⟩ := List.getElem_of_mem ho1
    obtain ⟨j, hj, ej⟩ := List.getElem_of_mem ha
    have hp := List.pairwise_iff_getElem.1 h1.calm
    have e3 : endsB o.2.1 = true := by rw [h3']; rfl
    rcases Nat.lt_trichotomy i j with e | e | e
    · have := hp i j hi hj e
      rw [ei, ej] at this
      exact this ⟨hod, e3⟩
    · subst e
      rw [ei] at ej
      rw [ej] at h3'
      cases h3'
    · have := hp j i hj hi e
      rw [ei, ej] at this
      exact this ⟨hod.symm, rfl⟩
end Go.Proofs.YtmjjiehnjghndaaGreat

namespace Go.Proofs.YtmjjiehnjghndaaGreat
open Go.RowKit

/-- What Run answers, of any ops, by any way. -/
def strictU (l : List Op3) (way : Int) : (List Op3 × List Int) × Int :=
  if (chk l).2 ≠ 0 then (([], []), (chk l).2) else if way < 0 ∨ 2 < way then (([], []), 1) else (((strictR way l).told, (strictR way l).vict), 0)
/-- What package strict is asked to keep. -/
def StrictC : Prop := ∀ (l : List Op3) (v : Value) (way : Int) (w : World), IsOps w v l → Calls Tryz.prog 6 #[v, .int .i64 way] w fun e w' => ∃ v1 v2, e = .returned (.tuple #[v1, v2, errV (strictU l way).2]) ∧ IsOps w' v1 (strictU l way).1.1 ∧ IsInts w' v2 (strictU l way).1.2 ∧ Below w.heap.size w w'
theorem chk_each {l : List Op3} (h : (chk l).2 = 0) : ∀ o ∈ l, isOpB o = true := chk_ops h
theorem strictU_len (l : List Op3) (way : Int) : (strictU l way).1.1.length ≤ 46 ∧ (strictU l way).1.2.length ≤ 6 := by
  unfold strictU
  split
  · exact ⟨by simp, by simp⟩
  · rename_i hc
    have hc' : (chk l).2 = 0 := by simpa using hc
    split
    · exact ⟨by simp, by simp⟩
    · have h1 := strict_ok way l (chk_each hc') l.length (Nat.le_refl _)
      have h2 := chk_len hc'
      rw [List.take_length] at h1
      have h3 := h1.1.vict
      have h4 := h1.2
      unfold pot at h4
      exact ⟨by show (strictR way l).told.length ≤ 46; omega, by show (strictR way l).vict.length ≤ 6; omega⟩
end Go.Proofs.YtmjjiehnjghndaaGreat
