/-
  PROVED HERE: plain facts, with no word of the program: of deals that see what was when they began (chapters 12 and 13, as KindPlain has them): who reads again sees the same; of two that ran at once no item is written by both; nobody sees what was not done.
  Conditions: none.
-/
import Derived.Test.YtccjognnehoodagMgao
namespace Go.Proofs.Ytccjognnehoodag

theorem whoK_congr {of of' : Int → Dl} {ds : List Int} (h : ∀ t ∈ ds, of t = of' t) (item time below : Int) : whoK ds of item time below = whoK ds of' item time below := by
  unfold whoK
  exact foldl_congr' _ _ fun b x hx => by rw [h x hx]
theorem whoK_set {of : Int → Dl} {ds : List Int} {t : Int} (h : t ∉ ds) (r : Dl) (item time below : Int) : whoK ds (setF of t r) item time below = whoK ds of item time below :=
  whoK_congr (of := setF of t r) (of' := of) (fun _ hu => setF_other _ _ fun e => h (e ▸ hu)) item time below
theorem whoK_late {of : Int → Dl} {ds : List Int} {t item time below : Int} (h : time ≤ (of t).ended) : whoK (ds ++ [t]) of item time below = whoK ds of item time below := by
  unfold whoK
  rw [List.foldl_append, List.foldl_cons, List.foldl_nil, if_pos]
  rw [decide_eq_true h, Bool.or_true]
/-- What is always so of such a run. -/
structure SOkK (l : List Op3) (s : Kst) : Prop where
  read : ∀ t, s.beg t = true → ∀ e ∈ (s.of t).seen, e.2.2 ≠ t → e.2.2 = whoK s.done s.of e.2.1 (s.of t).began 0
  own : ∀ t, s.beg t = true → ∀ e ∈ (s.of t).seen, e.2.2 = t → inB (s.of t).wrote e.2.1 = true
  again : ∀ t, s.beg t = true → (s.of t).seen.Pairwise fun a b => a.2.1 = b.2.1 → b.2.2 ≠ t → a.2.2 = b.2.2
  excl : ∀ i ∈ s.done, ∀ j ∈ s.done, (s.of i).ended < (s.of j).ended → ∀ item, inB (s.of i).wrote item = true → inB (s.of j).wrote item = true → (s.of i).ended ≤ (s.of j).began
  rise : s.done.Pairwise fun i j => (s.of i).ended < (s.of j).ended
  place : ∀ t, s.beg t = true → (opAt l (s.of t).began.toNat).1 = t
  life : ∀ t ∈ s.done, (s.of t).began ≤ (s.of t).ended
theorem sOk0 (l : List Op3) : SOkK l kst0 := ⟨fun _ h => (by cases h), fun _ h => (by cases h), fun _ h => (by cases h), fun _ h => (by cases h), List.Pairwise.nil, fun _ h => (by cases h), fun _ h => (by cases h)⟩
/-- What one deal is to be, so that all stays so. -/
structure SDl (l : List Op3) (s : Kst) (t : Int) (r : Dl) : Prop where
  read : ∀ e ∈ r.seen, e.2.2 ≠ t → e.2.2 = whoK s.done s.of e.2.1 r.began 0
  own : ∀ e ∈ r.seen, e.2.2 = t → inB r.wrote e.2.1 = true
  again : r.seen.Pairwise fun a b => a.2.1 = b.2.1 → b.2.2 ≠ t → a.2.2 = b.2.2
  place : (opAt l r.began.toNat).1 = t
theorem SOkK.now {l : List Op3} {k : Nat} {s : Kst} (h : SOkK l s) : SDl l s (opAt l k).1 (nowK s k (opAt l k).1) := by
  unfold nowK
  split
  · rename_i hb
    exact ⟨h.read _ hb, h.own _ hb, h.again _ hb, h.place _ hb⟩
  · exact ⟨fun e he => (by cases he), fun e he => (by cases he), List.Pairwise.nil, by simp⟩
theorem SOkK.stay {l : List Op3} {s : Kst} (h : SOkK l s) {t : Int} (hnd : t ∉ s.done) (r : Dl) (lk : List Op3) (hr : SDl l s t r) : SOkK l ⟨s.done, setF s.of t r, setF s.beg t true, lk⟩ := by
  have hoth : ∀ i ∈ s.done, setF s.of t r i = s.of i := fun i hi => setF_other _ _ fun e => hnd (e ▸ hi)
  refine ⟨fun u hu => ?_, fun u hu => ?_, fun u hu => ?_, fun i hi j hj => ?_, ?_, fun u hu => ?_, fun u hu => ?_⟩
  · show ∀ e ∈ (setF s.of t r u).seen, e.2.2 ≠ u → e.2.2 = whoK s.done (setF s.of t r) e.2.1 (setF s.of t r u).began 0
    have hu' : setF s.beg t true u = true := hu
    intro e he hne
    rw [whoK_set hnd]
    by_cases e1 : u = t
    · subst e1
      rw [setF_same] at he ⊢
      exact hr.read e he hne
    · rw [setF_other _ _ e1] at he hu' ⊢
      exact h.read u hu' e he hne
  · show ∀ e ∈ (setF s.of t r u).seen, e.2.2 = u → inB (setF s.of t r u).wrote e.2.1 = true
    have hu' : setF s.beg t true u = true := hu
    by_cases e1 : u = t
    · subst e1; rw [setF_same]; exact hr.own
    · rw [setF_other _ _ e1] at hu' ⊢
      exact h.own u hu'
  · show (setF s.of t r u).seen.Pairwise fun a b => a.2.1 = b.2.1 → b.2.2 ≠ u → a.2.2 = b.2.2
    have hu' : setF s.beg t true u = true := hu
    by_cases e1 : u = t
    · subst e1; rw [setF_same]; exact hr.again
    · rw [setF_other _ _ e1] at hu' ⊢
      exact h.again u hu'
  · show (setF s.of t r i).ended < (setF s.of t r j).ended → ∀ item, inB (setF s.of t r i).wrote item = true → inB (setF s.of t r j).wrote item = true → (setF s.of t r i).ended ≤ (setF s.of t r j).began
    rw [hoth i hi, hoth j hj]
    exact h.excl i hi j hj
  · exact h.rise.imp_of_mem fun {a b} ha hb hab => by
      show (setF s.of t r a).ended < (setF s.of t r b).ended
      rw [hoth a ha, hoth b hb]
      exact hab
  · show (opAt l (setF s.of t r u).began.toNat).1 = u
    have hu' : setF s.beg t true u = true := hu
    by_cases e1 : u = t
    · subst e1; rw [setF_same]; exact hr.place
    · rw [setF_other _ _ e1] at hu' ⊢
      exact h.place u hu'
  · show (setF s.of t r u).began ≤ (setF s.of t r u).ended
    rw [hoth u hu]
    exact h.life u hu
theorem hit_two {kind : Int} (hkind : 1 < kind) {s : Kst} {t : Int} {r : Dl} {i item : Int} (hi : i ∈ s.done) (hw : inB (s.of i).wrote item = true) (hb : r.began < (s.of i).ended) (hm : inB r.wrote item = true) : hitK kind s t r = true := by
  unfold hitK
  rw [List.any_eq_true]
  refine ⟨i, hi, ?_⟩
  rw [List.any_eq_true]
  refine ⟨item, by simpa [inB] using hw, ?_⟩
  rw [if_pos hkind, hm, decide_eq_true hb]
  rfl
theorem SOkK.end_ {kind : Int} (hkind : 1 < kind) {l : List Op3} {k : Nat} {s : Kst} (h : SOkK l s) (hK : KOk l k s) {t : Int} (hnd : t ∉ s.done) (r : Dl) (lk : List Op3) (hr : SDl l s t r) (hbeg : r.began < (k : Int) + 1) (hok : hitK kind s t r = false) :
    SOkK l ⟨s.done ++ [t], setF s.of t { r with ended := k }, setF s.beg t true, lk⟩ := by
  have hoth : ∀ i ∈ s.done, setF s.of t { r with ended := (k : Int) } i = s.of i := fun i hi => setF_other _ _ fun e => hnd (e ▸ hi)
  have htime : ∀ i ∈ s.done, (s.of i).ended < (k : Int) := fun i hi => (hK.comm i hi).2.2.2.2.1
  have hlate : ∀ item time, time ≤ (k : Int) → whoK (s.done ++ [t]) (setF s.of t { r with ended := (k : Int) }) item time 0 = whoK s.done s.of item time 0 := fun item time ht => by
    rw [whoK_late (by rw [setF_same]; exact ht), whoK_set hnd]
  refine ⟨fun u hu => ?_, fun u hu => ?_, fun u hu => ?_, fun i hi j hj => ?_, ?_, fun u hu => ?_, fun u hu => ?_⟩
  · show ∀ e ∈ (setF s.of t { r with ended := (k : Int) } u).seen, e.2.2 ≠ u → e.2.2 = whoK (s.done ++ [t]) (setF s.of t { r with ended := (k : Int) }) e.2.1 (setF s.of t { r with ended := (k : Int) } u).began 0
    have hu' : setF s.beg t true u = true := hu
    intro e he hne
    by_cases e1 : u = t
    · subst e1
      rw [setF_same] at he
      have hbb : (setF s.of u { r with ended := (k : Int) } u).began = r.began := by rw [setF_same]
      rw [hbb, hlate _ _ (by omega)]
      exact hr.read e he hne
    · have hbb : (setF s.of t { r with ended := (k : Int) } u).began = (s.of u).began := by rw [setF_other _ _ e1]
      rw [setF_other _ _ e1] at he hu'
      have := (hK.times u hu').2
      rw [hbb, hlate _ _ (by omega)]
      exact h.read u hu' e he hne
  · show ∀ e ∈ (setF s.of t { r with ended := (k : Int) } u).seen, e.2.2 = u → inB (setF s.of t { r with ended := (k : Int) } u).wrote e.2.1 = true
    have hu' : setF s.beg t true u = true := hu
    by_cases e1 : u = t
    · subst e1; rw [setF_same]; exact hr.own
    · rw [setF_other _ _ e1] at hu' ⊢
      exact h.own u hu'
  · show (setF s.of t { r with ended := (k : Int) } u).seen.Pairwise fun a b => a.2.1 = b.2.1 → b.2.2 ≠ u → a.2.2 = b.2.2
    have hu' : setF s.beg t true u = true := hu
    by_cases e1 : u = t
    · subst e1; rw [setF_same]; exact hr.again
    · rw [setF_other _ _ e1] at hu' ⊢
      exact h.again u hu'
  · show (setF s.of t { r with ended := (k : Int) } i).ended < (setF s.of t { r with ended := (k : Int) } j).ended → ∀ item, inB (setF s.of t { r with ended := (k : Int) } i).wrote item = true → inB (setF s.of t { r with ended := (k : Int) } j).wrote item = true → (setF s.of t { r with ended := (k : Int) } i).ended ≤ (setF s.of t { r with ended := (k : Int) } j).began
    rcases List.mem_append.1 hi with hi | hi
    · rw [hoth i hi]
      rcases List.mem_append.1 hj with hj | hj
      · rw [hoth j hj]
        exact h.excl i hi j hj
      · rw [List.mem_singleton.1 hj, setF_same]
        intro _ item h1 h2
        dsimp only at h2 ⊢
        by_cases hc : r.began < (s.of i).ended
        · rw [hit_two hkind hi h1 hc h2] at hok
          cases hok
        · omega
    · rw [List.mem_singleton.1 hi, setF_same]
      intro hlt
      rcases List.mem_append.1 hj with hj | hj
      · rw [hoth j hj] at hlt
        have := htime j hj
        dsimp only at hlt
        omega
      · rw [List.mem_singleton.1 hj, setF_same] at hlt
        dsimp only at hlt
        omega
  · show (s.done ++ [t]).Pairwise fun i j => (setF s.of t { r with ended := (k : Int) } i).ended < (setF s.of t { r with ended := (k : Int) } j).ended
    refine List.pairwise_append.2 ⟨h.rise.imp_of_mem fun {a b} ha hb hab => ?_, by simp, fun a ha b hb => ?_⟩
    · rw [hoth a ha, hoth b hb]
      exact hab
    · rw [List.mem_singleton.1 hb, setF_same, hoth a ha]
      exact htime a ha
  · show (opAt l (setF s.of t { r with ended := (k : Int) } u).began.toNat).1 = u
    have hu' : setF s.beg t true u = true := hu
    by_cases e1 : u = t
    · subst e1; rw [setF_same]; exact hr.place
    · rw [setF_other _ _ e1] at hu' ⊢
      exact h.place u hu'
  · show (setF s.of t { r with ended := (k : Int) } u).began ≤ (setF s.of t { r with ended := (k : Int) } u).ended
    rcases List.mem_append.1 hu with hu | hu
    · rw [hoth u hu]
      exact h.life u hu
    · rw [List.mem_singleton.1 hu, setF_same]
      dsimp only
      omega
theorem snap_next {kind : Int} {okF : Kst → Int → Dl → Bool} (hkind : kind = 2 ∨ kind = 3) (hok : ∀ s t r, okF s t r = true → hitK kind s t r = false) {l : List Op3} {k : Nat} {s : Kst} (h : SOkK l s) (hK : KOk l k s) (hc : Calm l) (hop : ∀ o ∈ l, isOpB o = true) (hk : k < l.length) : SOkK l (stepK kind okF s k (opAt l k)) := by
  have hnd := hK.free hc hk
  have hnow := h.now (k := k)
  have htx : 1 ≤ (opAt l k).1 := by
    have := hop (opAt l k) (by rw [opAt_at hk]; exact List.getElem_mem hk)
    unfold isOpB at this
    simp at this
    omega
  unfold stepK
  split
  · refine h.stay hnd _ _ ⟨fun e he hne => ?_, fun e he hne => ?_, ?_, hnow.place⟩
    · rcases List.mem_append.1 he with he | he
      · exact hnow.read e he hne
      · rw [List.mem_singleton.1 he] at hne ⊢
        dsimp only at hne ⊢
        unfold fromK at hne ⊢
        split at hne
        · exact absurd rfl hne
        · rename_i hw
          rw [if_neg hw, if_neg (by omega), if_neg (by omega)]
    · rcases List.mem_append.1 he with he | he
      · exact hnow.own e he hne
      · rw [List.mem_singleton.1 he] at hne ⊢
        exact from_own hne hnd htx
    · refine List.pairwise_append.2 ⟨hnow.again, by simp, fun a ha b hb hab hne => ?_⟩
      rw [List.mem_singleton.1 hb] at hab hne ⊢
      dsimp only at hab hne ⊢
      unfold fromK at hne ⊢
      split at hne
      · exact absurd rfl hne
      · rename_i hw
        rw [if_neg hw, if_neg (by omega), if_neg (by omega), ← hab]
        refine hnow.read a ha fun e => hw ?_
        rw [← hab]
        exact hnow.own a ha e
  · split
    · exact h.stay hnd _ _ ⟨hnow.read, fun e he hne => (by have := hnow.own e he hne; unfold inB at this ⊢; simp at this ⊢; exact Or.inl this), hnow.again, hnow.place⟩
    · split
      · split
        · rename_i hyes
          exact h.end_ (kind := kind) (by omega) hK hnd _ _ hnow ((hK.now _).2.2.1.2) (hok _ _ _ hyes)
        · exact h.stay hnd _ _ hnow
      · exact h.stay hnd _ _ hnow
theorem snap_ok {kind : Int} {okF : Kst → Int → Dl → Bool} (hkind : kind = 2 ∨ kind = 3) (hok : ∀ s t r, okF s t r = true → hitK kind s t r = false) {l : List Op3} (h : (chk l).2 = 0) : ∀ k, k ≤ l.length → SOkK l (runK kind okF l k) := by
  obtain ⟨_, h2, h3⟩ := (chk_iff l).1 h
  intro k
  induction k with
  | zero => exact fun _ => sOk0 l
  | succ k ih => exact fun hk => snap_next hkind hok (ih (by omega)) (run_kOk kind okF h k (by omega)) h3 h2 (by omega)
def okS (s : Kst) (t : Int) (r : Dl) : Bool := !hitK 2 s t r
theorem okS_hit (s : Kst) (t : Int) (r : Dl) (h : okS s t r = true) : hitK 2 s t r = false := by unfold okS at h; simpa using h
/-- NOBODY SEES WHAT WAS NOT DONE. -/
theorem snap_done {kind : Int} {okF : Kst → Int → Dl → Bool} (hkind : kind = 2 ∨ kind = 3) (hok : ∀ s t r, okF s t r = true → hitK kind s t r = false) {l : List Op3} (h : (chk l).2 = 0) {t : Int} (ht : t ∈ (runK kind okF l l.length).done) {e : Op3} (he : e ∈ ((runK kind okF l l.length).of t).seen) : e.2.2 = 0 ∨ e.2.2 ∈ (runK kind okF l l.length).done := by
  have hK := run_kOk kind okF h l.length (Nat.le_refl _)
  have hS := snap_ok hkind hok h l.length (Nat.le_refl _)
  by_cases hne : e.2.2 = t
  · exact Or.inr (hne ▸ ht)
  · rw [hS.read t (hK.comm t ht).1 e he hne]
    exact who_mem _ _ _ _ _
/-- OF TWO THAT RAN AT ONCE NO ITEM IS WRITTEN BY BOTH. -/
theorem snap_apart {kind : Int} {okF : Kst → Int → Dl → Bool} (hkind : kind = 2 ∨ kind = 3) (hok : ∀ s t r, okF s t r = true → hitK kind s t r = false) {l : List Op3} (h : (chk l).2 = 0) {i j : Int} (hi : i ∈ (runK kind okF l l.length).done) (hj : j ∈ (runK kind okF l l.length).done) (hij : i ≠ j)
    (ho : onceK ((runK kind okF l l.length).of i) ((runK kind okF l l.length).of j) = true) (item : Int) : ¬ (item ∈ wrL (ofL l i) ∧ item ∈ wrL (ofL l j)) := by
  have hK := run_kOk kind okF h l.length (Nat.le_refl _)
  have hS := snap_ok hkind hok h l.length (Nat.le_refl _)
  have hw := run_wr kind okF h l.length (Nat.le_refl _)
  rw [List.take_length] at hw
  rintro ⟨h1, h2⟩
  rw [← hw i (hK.comm i hi).1] at h1
  rw [← hw j (hK.comm j hj).1] at h2
  have ei := (hK.comm i hi).2.2.2
  have ej := (hK.comm j hj).2.2.2
  have hne : ((runK kind okF l l.length).of i).ended ≠ ((runK kind okF l l.length).of j).ended := fun e => hij (by
    have a1 := ei.2.2
    have a2 := ej.2.2
    rw [e, a2] at a1
    exact (congrArg Prod.fst a1).symm)
  unfold onceK at ho
  simp at ho
  rcases Int.lt_or_gt_of_ne hne with hlt | hlt
  · have := hS.excl i hi j hj hlt item (by simpa [inB] using h1) (by simpa [inB] using h2)
    omega
  · have := hS.excl j hj i hi hlt item (by simpa [inB] using h2) (by simpa [inB] using h1)
    omega
end Go.Proofs.Ytccjognnehoodag
