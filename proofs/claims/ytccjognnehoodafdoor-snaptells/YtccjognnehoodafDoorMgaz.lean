/-
  PROVED HERE: plain facts, with no word of the program: of deals that see what was when they began (chapters 12 and 13, as KindPlain has them): who reads again sees the same; of two that ran at once no item is written by both; nobody sees what was not done.
  Conditions: none.
  PROVED HERE: plain facts, with no word of the program: NOBODY BETWEEN, AS IF ONE BEHIND THE OTHER (Fekete): of deals that see what was when they began (chapter 13, as KindPlain has it), if nobody is between, there is an order of those that are done by which each saw what those ahead of it wrote; and if nobody is between of what is done by what was when deals began, both runs are one.
  Conditions: none.
-/
import Derived.Test.YtccjognnehoodafDoorMgaq
namespace Go.Proofs.YtccjognnehoodafDoor

theorem whoK_congr {of of' : Int → Dl} {ds : List Int} (h : ∀ t ∈ ds, of t = of' t) (item time below : Int) : whoK ds of item time below = whoK ds of' item time below := by
  unfold whoK
  exact foldl_congr' _ _ fun b x hx => by rw [h x hx]
theorem whoK_set {of : Int → Dl} {ds : List Int} {t : Int} (h : t ∉ ds) (r : Dl) (item time below : Int) : whoK ds (setF of t r) item time below = whoK ds of item time below :=
  whoK_congr (of := setF of t r) (of' := of) (fun _ hu => setF_other _ _ fun e => h (e ▸ hu)) item time below
theorem whoK_late {of : Int → Dl} {ds : List Int} {t item time below : Int} (h : time ≤ (of t).ended) : whoK (ds ++ [t]) of item time below = whoK ds of item time below := by
  unfold whoK
  rw [List.foldl_append, List.foldl_cons, List.foldl_nil, if_pos]
  rw [decide_eq_true h, Bool.or_true]
/-- What is always so of such a run. -/
structure SOkK (l : List Op3) (s : Kst) : Prop where
  read : ∀ t, s.beg t = true → ∀ e ∈ (s.of t).seen, e.2.2 ≠ t → e.2.2 = whoK s.done s.of e.2.1 (s.of t).began 0
  own : ∀ t, s.beg t = true → ∀ e ∈ (s.of t).seen, e.2.2 = t → inB (s.of t).wrote e.2.1 = true
  again : ∀ t, s.beg t = true → (s.of t).seen.Pairwise fun a b => a.2.1 = b.2.1 → b.2.2 ≠ t → a.2.2 = b.2.2
  excl : ∀ i ∈ s.done, ∀ j ∈ s.done, (s.of i).ended < (s.of j).ended → ∀ item, inB (s.of i).wrote item = true → inB (s.of j).wrote item = true → (s.of i).ended ≤ (s.of j).began
  rise : s.done.Pairwise fun i j => (s.of i).ended < (s.of j).ended
  place : ∀ t, s.beg t = true → (opAt l (s.of t).began.toNat).1 = t
  life : ∀ t ∈ s.done, (s.of t).began ≤ (s.of t).ended
theorem sOk0 (l : List Op3) : SOkK l kst0 := ⟨fun _ h => (by cases h), fun _ h => (by cases h), fun _ h => (by cases h), fun _ h => (by cases h), List.Pairwise.nil, fun _ h => (by cases h), fun _ h => (by cases h)⟩
/-- What one deal is to be, so that all stays so. -/
structure SDl (l : List Op3) (s : Kst) (t : Int) (r : Dl) : Prop where
  read : ∀ e ∈ r.seen, e.2.2 ≠ t → e.2.2 = whoK s.done s.of e.2.1 r.began 0
  own : ∀ e ∈ r.seen, e.2.2 = t → inB r.wrote e.2.1 = true
  again : r.seen.Pairwise fun a b => a.2.1 = b.2.1 → b.2.2 ≠ t → a.2.2 = b.2.2
  place : (opAt l r.began.toNat).1 = t
theorem SOkK.now {l : List Op3} {k : Nat} {s : Kst} (h : SOkK l s) : SDl l s (opAt l k).1 (nowK s k (opAt l k).1) := by
  unfold nowK
  split
  · rename_i hb
    exact ⟨h.read _ hb, h.own _ hb, h.again _ hb, h.place _ hb⟩
  · exact ⟨fun e he => (by cases he), fun e he => (by cases he), List.Pairwise.nil, by simp⟩
theorem SOkK.stay {l : List Op3} {s : Kst} (h : SOkK l s) {t : Int} (hnd : t ∉ s.done) (r : Dl) (lk : List Op3) (hr : SDl l s t r) : SOkK l ⟨s.done, setF s.of t r, setF s.beg t true, lk⟩ := by
  have hoth : ∀ i ∈ s.done, setF s.of t r i = s.of i := fun i hi => setF_other _ _ fun e => hnd (e ▸ hi)
  refine ⟨fun u hu => ?_, fun u hu => ?_, fun u hu => ?_, fun i hi j hj => ?_, ?_, fun u hu => ?_, fun u hu => ?_⟩
  · show ∀ e ∈ (setF s.of t r u).seen, e.2.2 ≠ u → e.2.2 = whoK s.done (setF s.of t r) e.2.1 (setF s.of t r u).began 0
    have hu' : setF s.beg t true u = true := hu
    intro e he hne
    rw [whoK_set hnd]
    by_cases e1 : u = t
    · subst e1
      rw [setF_same] at he ⊢
      exact hr.read e he hne
    · rw [setF_other _ _ e1] at he hu' ⊢
      exact h.read u hu' e he hne
  · show ∀ e ∈ (setF s.of t r u).seen, e.2.2 = u → inB (setF s.of t r u).wrote e.2.1 = true
    have hu' : setF s.beg t true u = true := hu
    by_cases e1 : u = t
    · subst e1; rw [setF_same]; exact hr.own
    · rw [setF_other _ _ e1] at hu' ⊢
      exact h.own u hu'
  · show (setF s.of t r u).seen.Pairwise fun a b => a.2.1 = b.2.1 → b.2.2 ≠ u → a.2.2 = b.2.2
    have hu' : setF s.beg t true u = true := hu
    by_cases e1 : u = t
    · subst e1; rw [setF_same]; exact hr.again
    · rw [setF_other _ _ e1] at hu' ⊢
      exact h.again u hu'
  · show (setF s.of t r i).ended < (setF s.of t r j).ended → ∀ item, inB (setF s.of t r i).wrote item = true → inB (setF s.of t r j).wrote item = true → (setF s.of t r i).ended ≤ (setF s.of t r j).began
    rw [hoth i hi, hoth j hj]
    exact h.excl i hi j hj
  · exact h.rise.imp_of_mem fun {a b} ha hb hab => by
      show (setF s.of t r a).ended < (setF s.of t r b).ended
      rw [hoth a ha, hoth b hb]
      exact hab
  · show (opAt l (setF s.of t r u).began.toNat).1 = u
    have hu' : setF s.beg t true u = true := hu
    by_cases e1 : u = t
    · subst e1; rw [setF_same]; exact hr.place
    · rw [setF_other _ _ e1] at hu' ⊢
      exact h.place u hu'
  · show (setF s.of t r u).began ≤ (setF s.of t r u).ended
    rw [hoth u hu]
    exact h.life u hu
theorem hit_two {kind : Int} (hkind : 1 < kind) {s : Kst} {t : Int} {r : Dl} {i item : Int} (hi : i ∈ s.done) (hw : inB (s.of i).wrote item = true) (hb : r.began < (s.of i).ended) (hm : inB r.wrote item = true) : hitK kind s t r = true := by
  unfold hitK
  rw [List.any_eq_true]
  refine ⟨i, hi, ?_⟩
  rw [List.any_eq_true]
  refine ⟨item, by simpa [inB] using hw, ?_⟩
  rw [if_pos hkind, hm, decide_eq_true hb]
  rfl
theorem SOkK.end_ {kind : Int} (hkind : 1 < kind) {l : List Op3} {k : Nat} {s : Kst} (h : SOkK l s) (hK : KOk l k s) {t : Int} (hnd : t ∉ s.done) (r : Dl) (lk : List Op3) (hr : SDl l s t r) (hbeg : r.began < (k : Int) + 1) (hok : hitK kind s t r = false) :
    SOkK l ⟨s.done ++ [t], setF s.of t { r with ended := k }, setF s.beg t true, lk⟩ := by
  have hoth : ∀ i ∈ s.done, setF s.of t { r with ended := (k : Int) } i = s.of i := fun i hi => setF_other _ _ fun e => hnd (e ▸ hi)
  have htime : ∀ i ∈ s.done, (s.of i).ended < (k : Int) := fun i hi => (hK.comm i hi).2.2.2.2.1
  have hlate : ∀ item time, time ≤ (k : Int) → whoK (s.done ++ [t]) (setF s.of t { r with ended := (k : Int) }) item time 0 = whoK s.done s.of item time 0 := fun item time ht => by
    rw [whoK_late (by rw [setF_same]; exact ht), whoK_set hnd]
  refine ⟨fun u hu => ?_, fun u hu => ?_, fun u hu => ?_, fun i hi j hj => ?_, ?_, fun u hu => ?_, fun u hu => ?_⟩
  · show ∀ e ∈ (setF s.of t { r with ended := (k : Int) } u).seen, e.2.2 ≠ u → e.2.2 = whoK (s.done ++ [t]) (setF s.of t { r with ended := (k : Int) }) e.2.1 (setF s.of t { r with ended := (k : Int) } u).began 0
    have hu' : setF s.beg t true u = true := hu
    intro e he hne
    by_cases e1 : u = t
    · subst e1
      rw [setF_same] at he
      have hbb : (setF s.of u { r with ended := (k : Int) } u).began = r.began := by rw [setF_same]
      rw [hbb, hlate _ _ (by omega)]
      exact hr.read e he hne
    · have hbb : (setF s.of t { r with ended := (k : Int) } u).began = (s.of u).began := by rw [setF_other _ _ e1]
      rw [setF_other _ _ e1] at he hu'
      have := (hK.times u hu').2
      rw [hbb, hlate _ _ (by omega)]
      exact h.read u hu' e he hne
  · show ∀ e ∈ (setF s.of t { r with ended := (k : Int) } u).seen, e.2.2 = u → inB (setF s.of t { r with ended := (k : Int) } u).wrote e.2.1 = true
    have hu' : setF s.beg t true u = true := hu
    by_cases e1 : u = t
    · subst e1; rw [setF_same]; exact hr.own
    · rw [setF_other _ _ e1] at hu' ⊢
      exact h.own u hu'
  · show (setF s.of t { r with ended := (k : Int) } u).seen.Pairwise fun a b => a.2.1 = b.2.1 → b.2.2 ≠ u → a.2.2 = b.2.2
    have hu' : setF s.beg t true u = true := hu
    by_cases e1 : u = t
    · subst e1; rw [setF_same]; exact hr.again
    · rw [setF_other _ _ e1] at hu' ⊢
      exact h.again u hu'
  · show (setF s.of t { r with ended := (k : Int) } i).ended < (setF s.of t { r with ended := (k : Int) } j).ended → ∀ item, inB (setF s.of t { r with ended := (k : Int) } i).wrote item = true → inB (setF s.of t { r with ended := (k : Int) } j).wrote item = true → (setF s.of t { r with ended := (k : Int) } i).ended ≤ (setF s.of t { r with ended := (k : Int) } j).began
    rcases List.mem_append.1 hi with hi | hi
    · rw [hoth i hi]
      rcases List.mem_append.1 hj with hj | hj
      · rw [hoth j hj]
        exact h.excl i hi j hj
      · rw [List.mem_singleton.1 hj, setF_same]
        intro _ item h1 h2
        dsimp only at h2 ⊢
        by_cases hc : r.began < (s.of i).ended
        · rw [hit_two hkind hi h1 hc h2] at hok
          cases hok
        · omega
    · rw [List.mem_singleton.1 hi, setF_same]
      intro hlt
      rcases List.mem_append.1 hj with hj | hj
      · rw [hoth j hj] at hlt
        have := htime j hj
        dsimp only at hlt
        omega
      · rw [List.mem_singleton.1 hj, setF_same] at hlt
        dsimp only at hlt
        omega
  · show (s.done ++ [t]).Pairwise fun i j => (setF s.of t { r with ended := (k : Int) } i).ended < (setF s.of t { r with ended := (k : Int) } j).ended
    refine List.pairwise_append.2 ⟨h.rise.imp_of_mem fun {a b} ha hb hab => ?_, by simp, fun a ha b hb => ?_⟩
    · rw [hoth a ha, hoth b hb]
      exact hab
    · rw [List.mem_singleton.1 hb, setF_same, hoth a ha]
      exact htime a ha
  · show (opAt l (setF s.of t { r with ended := (k : Int) } u).began.toNat).1 = u
    have hu' : setF s.beg t true u = true := hu
    by_cases e1 : u = t
    · subst e1; rw [setF_same]; exact hr.place
    · rw [setF_other _ _ e1] at hu' ⊢
      exact h.place u hu'
  · show (setF s.of t { r with ended := (k : Int) } u).began ≤ (setF s.of t { r with ended := (k : Int) } u).ended
    rcases List.mem_append.1 hu with hu | hu
    · rw [hoth u hu]
      exact h.life u hu
    · rw [List.mem_singleton.1 hu, setF_same]
      dsimp only
      omega
theorem snap_next {kind : Int} {okF : Kst → Int → Dl → Bool} (hkind : kind = 2 ∨ kind = 3) (hok : ∀ s t r, okF s t r = true → hitK kind s t r = false) {l : List Op3} {k : Nat} {s : Kst} (h : SOkK l s) (hK : KOk l k s) (hc : Calm l) (hop : ∀ o ∈ l, isOpB o = true) (hk : k < l.length) : SOkK l (stepK kind okF s k (opAt l k)) := by
  have hnd := hK.free hc hk
  have hnow := h.now (k := k)
  have htx : 1 ≤ (opAt l k).1 := by
    have := hop (opAt l k) (by rw [opAt_at hk]; exact List.getElem_mem hk)
    unfold isOpB at this
    simp at this
    omega
  unfold stepK
  split
  · refine h.stay hnd _ _ ⟨fun e he hne => ?_, fun e he hne => ?_, ?_, hnow.place⟩
    · rcases List.mem_append.1 he with he | he
      · exact hnow.read e he hne
      · rw [List.mem_singleton.1 he] at hne ⊢
        dsimp only at hne ⊢
        unfold fromK at hne ⊢
        split at hne
        · exact absurd rfl hne
        · rename_i hw
          rw [if_neg hw, if_neg (by omega), if_neg (by omega)]
    · rcases List.mem_append.1 he with he | he
      · exact hnow.own e he hne
      · rw [List.mem_singleton.1 he] at hne ⊢
        exact from_own hne hnd htx
    · refine List.pairwise_append.2 ⟨hnow.again, by simp, fun a ha b hb hab hne => ?_⟩
      rw [List.mem_singleton.1 hb] at hab hne ⊢
      dsimp only at hab hne ⊢
      unfold fromK at hne ⊢
      split at hne
      · exact absurd rfl hne
      · rename_i hw
        rw [if_neg hw, if_neg (by omega), if_neg (by omega), ← hab]
        refine hnow.read a ha fun e => hw ?_
        rw [← hab]
        exact hnow.own a ha e
  · split
    · exact h.stay hnd _ _ ⟨hnow.read, fun e he hne => (by have := hnow.own e he hne; unfold inB at this ⊢; simp at this ⊢; exact Or.inl this), hnow.again, hnow.place⟩
    · split
      · split
        · rename_i hyes
          exact h.end_ (kind := kind) (by omega) hK hnd _ _ hnow ((hK.now _).2.2.1.2) (hok _ _ _ hyes)
        · exact h.stay hnd _ _ hnow
      · exact h.stay hnd _ _ hnow
theorem snap_ok {kind : Int} {okF : Kst → Int → Dl → Bool} (hkind : kind = 2 ∨ kind = 3) (hok : ∀ s t r, okF s t r = true → hitK kind s t r = false) {l : List Op3} (h : (chk l).2 = 0) : ∀ k, k ≤ l.length → SOkK l (runK kind okF l k) := by
  obtain ⟨_, h2, h3⟩ := (chk_iff l).1 h
  intro k
  induction k with
  | zero => exact fun _ => sOk0 l
  | succ k ih => exact fun hk => snap_next hkind hok (ih (by omega)) (run_kOk kind okF h k (by omega)) h3 h2 (by omega)
def okS (s : Kst) (t : Int) (r : Dl) : Bool := !hitK 2 s t r
theorem okS_hit (s : Kst) (t : Int) (r : Dl) (h : okS s t r = true) : hitK 2 s t r = false := by unfold okS at h; simpa using h
/-- NOBODY SEES WHAT WAS NOT DONE. -/
theorem snap_done {kind : Int} {okF : Kst → Int → Dl → Bool} (hkind : kind = 2 ∨ kind = 3) (hok : ∀ s t r, okF s t r = true → hitK kind s t r = false) {l : List Op3} (h : (chk l).2 = 0) {t : Int} (ht : t ∈ (runK kind okF l l.length).done) {e : Op3} (he : e ∈ ((runK kind okF l l.length).of t).seen) : e.2.2 = 0 ∨ e.2.2 ∈ (runK kind okF l l.length).done := by
  have hK := run_kOk kind okF h l.length (Nat.le_refl _)
  have hS := snap_ok hkind hok h l.length (Nat.le_refl _)
  by_cases hne : e.2.2 = t
  · exact Or.inr (hne ▸ ht)
  · rw [hS.read t (hK.comm t ht).1 e he hne]
    exact who_mem _ _ _ _ _
/-- OF TWO THAT RAN AT ONCE NO ITEM IS WRITTEN BY BOTH. -/
theorem snap_apart {kind : Int} {okF : Kst → Int → Dl → Bool} (hkind : kind = 2 ∨ kind = 3) (hok : ∀ s t r, okF s t r = true → hitK kind s t r = false) {l : List Op3} (h : (chk l).2 = 0) {i j : Int} (hi : i ∈ (runK kind okF l l.length).done) (hj : j ∈ (runK kind okF l l.length).done) (hij : i ≠ j)
    (ho : onceK ((runK kind okF l l.length).of i) ((runK kind okF l l.length).of j) = true) (item : Int) : ¬ (item ∈ wrL (ofL l i) ∧ item ∈ wrL (ofL l j)) := by
  have hK := run_kOk kind okF h l.length (Nat.le_refl _)
  have hS := snap_ok hkind hok h l.length (Nat.le_refl _)
  have hw := run_wr kind okF h l.length (Nat.le_refl _)
  rw [List.take_length] at hw
  rintro ⟨h1, h2⟩
  rw [← hw i (hK.comm i hi).1] at h1
  rw [← hw j (hK.comm j hj).1] at h2
  have ei := (hK.comm i hi).2.2.2
  have ej := (hK.comm j hj).2.2.2
  have hne : ((runK kind okF l l.length).of i).ended ≠ ((runK kind okF l l.length).of j).ended := fun e => hij (by
    have a1 := ei.2.2
    have a2 := ej.2.2
    rw [e, a2] at a1
    exact (congrArg Prod.fst a1).symm)
  unfold onceK at ho
  simp at ho
  rcases Int.lt_or_gt_of_ne hne with hlt | hlt
  · have := hS.excl i hi j hj hlt item (by simpa [inB] using h1) (by simpa [inB] using h2)
    omega
  · have := hS.excl j hj i hi hlt item (by simpa [inB] using h2) (by simpa [inB] using h1)
    omega
end Go.Proofs.YtccjognnehoodafDoor

namespace Go.Proofs.YtccjognnehoodafDoor

/-- Of those that ran at once: did one read what another one wrote? -/
def antiB (t : Int) (a b : Dl) : Bool := onceK a b && b.wrote.any fun item => readK t a item
def outAnti (of : Int → Dl) (ds : List Int) (t : Int) : Bool := ds.any fun u => u != t && antiB t (of t) (of u)
def intoAnti (of : Int → Dl) (ds : List Int) (t : Int) : Bool := ds.any fun u => u != t && antiB u (of u) (of t)
/-- Is one between? -/
def pivL (of : Int → Dl) (ds : List Int) : Bool := ds.any fun t => intoAnti of ds t && outAnti of ds t
def okBtw (s : Kst) (t : Int) (r : Dl) : Bool := !hitK 3 s t r && !pivL (setF s.of t r) (s.done ++ [t])
theorem okBtw_hit (s : Kst) (t : Int) (r : Dl) (h : okBtw s t r = true) : hitK 3 s t r = false := by unfold okBtw at h; simp at h; exact h.1

/-- The last of a kind by a measure, or 0. -/
def IsBy (f : Int → Int) (P : Int → Prop) (r : Int) : Prop := (r = 0 ∧ ∀ u, ¬ P u) ∨ (P r ∧ ∀ u, P u → f u ≤ f r)
theorem by_uniq {f : Int → Int} {P : Int → Prop} (hinj : ∀ u v, P u → P v → f u = f v → u = v) {r s : Int} (hr : IsBy f P r) (hs : IsBy f P s) : r = s := by
  rcases hr with ⟨e1, e2⟩ | ⟨e1, e2⟩
  · rcases hs with ⟨d1, _⟩ | ⟨d1, _⟩
    · omega
    · exact absurd d1 (e2 _)
  · rcases hs with ⟨_, d2⟩ | ⟨d1, d2⟩
    · exact absurd e1 (d2 _)
    · refine hinj _ _ e1 d1 ?_
      have := e2 _ d1
      have := d2 _ e1
      omega
theorem foldl_by (b : Int → Bool) (f : Int → Int) {ds : List Int} (hd : ds.Pairwise fun x y => f x < f y) : IsBy f (fun u => u ∈ ds ∧ b u = true) (ds.foldl (fun r t => if b t = true then t else r) 0) := by
  suffices H : ∀ (d : List Int) (r0 : Int), d.Pairwise (fun x y => f x < f y) → let r := d.foldl (fun r t => if b t = true then t else r) r0; (r = r0 ∧ ∀ u ∈ d, b u = false) ∨ (r ∈ d ∧ b r = true ∧ ∀ u ∈ d, b u = true → f u ≤ f r) from by
    rcases H ds 0 hd with ⟨h1, h2⟩ | ⟨h1, h2, h3⟩
    · exact Or.inl ⟨h1, fun u hu => by have h3 := hu.2; rw [h2 u hu.1] at h3; cases h3⟩
    · exact Or.inr ⟨⟨h1, h2⟩, fun u hu => h3 u hu.1 hu.2⟩
  intro d
  induction d with
  | nil => exact fun r0 _ => Or.inl ⟨rfl, fun u hu => (by cases hu)⟩
  | cons a d ih =>
    intro r0 hd
    obtain ⟨k1, k2⟩ := List.pairwise_cons.1 hd
    dsimp only
    rw [List.foldl_cons]
    rcases ih (if b a = true then a else r0) k2 with ⟨h1, h2⟩ | ⟨h1, h2, h3⟩
    · rw [h1]
      by_cases hb : b a = true
      · rw [if_pos hb]
        refine Or.inr ⟨List.mem_cons_self .., hb, fun u hu hub => ?_⟩
        rcases List.mem_cons.1 hu with e | hu
        · rw [e]; exact Int.le_refl _
        · rw [h2 u hu] at hub; cases hub
      · rw [if_neg hb]
        refine Or.inl ⟨rfl, fun u hu => ?_⟩
        rcases List.mem_cons.1 hu with e | hu
        · rw [e]; simpa using hb
        · exact h2 u hu
    · refine Or.inr ⟨List.mem_cons_of_mem _ h1, h2, fun u hu hub => ?_⟩
      rcases List.mem_cons.1 hu with e | hu
      · rw [e]; exact Int.le_of_lt (k1 _ h1)
      · exact h3 u hu hub
theorem who_by (ds : List Int) (of : Int → Dl) (item time : Int) : whoK ds of item time 0 = ds.foldl (fun r t => if (inB (of t).wrote item && decide ((of t).ended < time)) = true then t else r) 0 := by
  unfold whoK
  refine foldl_congr' _ _ fun b x _ => ?_
  by_cases h : (of x).ended < time
  · have e : decide (time ≤ (of x).ended) = false := by simp; omega
    rw [e, decide_eq_true h, Bool.or_false, Bool.and_true]
    cases inB (of x).wrote item <;> simp
  · have e : decide (time ≤ (of x).ended) = true := by simp; omega
    have e2 : decide ((of x).ended < time) = false := by simp; omega
    rw [e, e2, Bool.or_true, Bool.and_false]
    simp
/-- Any few can be sorted. -/
theorem sort_by (f : Int → Int) : ∀ ds : List Int, (∀ i ∈ ds, ∀ j ∈ ds, f i = f j → i = j) → ∃ o : List Int, o.Pairwise (fun x y => f x < f y) ∧ ∀ x, x ∈ o ↔ x ∈ ds := by
  intro ds
  induction ds with
  | nil => exact fun _ => ⟨[], List.Pairwise.nil, fun _ => Iff.rfl⟩
  | cons a ds ih =>
    intro hinj
    obtain ⟨o, h1, h2⟩ := ih fun i hi j hj => hinj i (List.mem_cons_of_mem _ hi) j (List.mem_cons_of_mem _ hj)
    by_cases ha : a ∈ ds
    · exact ⟨o, h1, fun x => by rw [h2 x, List.mem_cons]; exact ⟨Or.inr, fun hh => hh.elim (fun e => e ▸ ha) id⟩⟩
    · refine ⟨o.filter (fun x => decide (f x < f a)) ++ a :: o.filter (fun x => decide (f a < f x)), ?_, fun x => ?_⟩
      · refine List.pairwise_append.2 ⟨h1.sublist (List.filter_sublist ..), List.pairwise_cons.2 ⟨fun y hy => ?_, h1.sublist (List.filter_sublist ..)⟩, fun x hx y hy => ?_⟩
        · simpa using (List.mem_filter.1 hy).2
        · have hxa : f x < f a := by simpa using (List.mem_filter.1 hx).2
          rcases List.mem_cons.1 hy with e | hy
          · rw [e]; exact hxa
          · have hay : f a < f y := by simpa using (List.mem_filter.1 hy).2
            omega
      · rw [List.mem_append, List.mem_cons, List.mem_filter, List.mem_filter, List.mem_cons, h2 x]
        constructor
        · rintro (hh | hh | hh)
          · exact Or.inr hh.1
          · exact Or.inl hh
          · exact Or.inr hh.1
        · rintro (hh | hh)
          · exact Or.inr (Or.inl hh)
          · have hne : f x ≠ f a := fun e => ha (by rw [← hinj x (List.mem_cons_of_mem _ hh) a (List.mem_cons_self ..) e]; exact hh)
            rcases Int.lt_or_gt_of_ne hne with hlt | hlt
            · exact Or.inl ⟨hh, decide_eq_true hlt⟩
            · exact Or.inr (Or.inr ⟨hh, decide_eq_true hlt⟩)
/-- By what those that are done are ordered: from whom an edge leads, as it began; else as it ended. -/
def keyK (s : Kst) (t : Int) : Int := if outAnti s.of s.done t = true then (s.of t).began else (s.of t).ended
section
variable {l : List Op3} {k : Nat} {s : Kst}
theorem key_in (hS : SOkK l s) {t : Int} (ht : t ∈ s.done) : (s.of t).began ≤ keyK s t ∧ keyK s t ≤ (s.of t).ended := by
  have := hS.life t ht
  unfold keyK
  split <;> omega
theorem key_place (hK : KOk l k s) (hS : SOkK l s) {t : Int} (ht : t ∈ s.done) : (opAt l (keyK s t).toNat).1 = t := by
  unfold keyK
  split
  · exact hS.place t (hK.comm t ht).1
  · rw [(hK.comm t ht).2.2.2.2.2]
theorem key_inj (hK : KOk l k s) (hS : SOkK l s) {i j : Int} (hi : i ∈ s.done) (hj : j ∈ s.done) (h : keyK s i = keyK s j) : i = j := by
  rw [← key_place hK hS hi, h, key_place hK hS hj]
theorem ended_inj (hK : KOk l k s) {i j : Int} (hi : i ∈ s.done) (hj : j ∈ s.done) (h : (s.of i).ended = (s.of j).ended) : i = j := by
  have a1 := (hK.comm i hi).2.2.2.2.2
  rw [h, (hK.comm j hj).2.2.2.2.2] at a1
  exact (congrArg Prod.fst a1).symm
theorem meet_ne (hK : KOk l k s) (hS : SOkK l s) {i j : Int} (hi : i ∈ s.done) (hj : j ∈ s.done) (hij : i ≠ j) : (s.of i).ended ≠ (s.of j).began := fun e => hij (by
  have a1 := (hK.comm i hi).2.2.2.2.2
  have a2 := hS.place j (hK.comm j hj).1
  rw [← e, a1] at a2
  exact a2)
theorem key_prec (hS : SOkK l s) {i j : Int} (hi : i ∈ s.done) (hj : j ∈ s.done) (h : (s.of i).ended < (s.of j).began) : keyK s i < keyK s j := by
  have := key_in hS hi
  have := key_in hS hj
  omega
theorem key_anti (hK : KOk l k s) (hp : pivL s.of s.done = false) {i j : Int} (hi : i ∈ s.done) (hj : j ∈ s.done) (hij : i ≠ j) (h : antiB i (s.of i) (s.of j) = true) : keyK s i < keyK s j := by
  have ho : outAnti s.of s.done i = true := List.any_eq_true.2 ⟨j, hj, by rw [h, Bool.and_true]; simpa using fun e => hij e.symm⟩
  have hin : intoAnti s.of s.done j = true := List.any_eq_true.2 ⟨i, hi, by rw [h, Bool.and_true]; simpa using hij⟩
  have hno : outAnti s.of s.done j = false := by
    cases hx : outAnti s.of s.done j with
    | false => rfl
    | true =>
      have : pivL s.of s.done = true := List.any_eq_true.2 ⟨j, hj, by rw [hin, hx]; rfl⟩
      rw [this] at hp
      cases hp
  unfold keyK
  rw [if_pos ho, hno, if_neg (by decide)]
  have h0 := (hK.comm j hj).2.2.2.1
  unfold antiB onceK at h
  simp at h
  omega
theorem key_wrote (hK : KOk l k s) (hS : SOkK l s) {u v : Int} (hu : u ∈ s.done) (hv : v ∈ s.done) {item : Int} (h1 : inB (s.of u).wrote item = true) (h2 : inB (s.of v).wrote item = true) (h : (s.of u).ended < (s.of v).ended) : keyK s u < keyK s v := by
  have h3 := hS.excl u hu v hv h item h1 h2
  have h4 := meet_ne hK hS hu hv fun e => by rw [e] at h; omega
  exact key_prec hS hu hv (by omega)
/-- Who wrote an item last is so by both measures. -/
theorem by_turn (hK : KOk l k s) (hS : SOkK l s) {P : Int → Prop} {item r : Int} (hP : ∀ u, P u → u ∈ s.done ∧ inB (s.of u).wrote item = true) (h : IsBy (keyK s) P r) : IsBy (fun u => (s.of u).ended) P r := by
  rcases h with h | ⟨h1, h2⟩
  · exact Or.inl h
  · refine Or.inr ⟨h1, fun u hu => ?_⟩
    show (s.of u).ended ≤ (s.of r).ended
    by_cases hlt : (s.of r).ended < (s.of u).ended
    · have := key_wrote hK hS (hP r h1).1 (hP u hu).1 (hP r h1).2 (hP u hu).2 hlt
      have := h2 u hu
      omega
    · omega
/-- Whose write a read sees comes ahead, and no other one does. -/
theorem key_saw (hK : KOk l k s) (hS : SOkK l s) (hp : pivL s.of s.done = false) {t u : Int} (ht : t ∈ s.done) (hu : u ∈ s.done) {e : Op3} (he : e ∈ (s.of t).seen) (hne : e.2.2 ≠ t) (hw : inB (s.of u).wrote e.2.1 = true) (hut : u ≠ t) : keyK s u < keyK s t ↔ (s.of u).ended < (s.of t).began := by
  refine ⟨fun h => ?_, key_prec hS hu ht⟩
  have m1 := meet_ne hK hS hu ht hut
  have m2 := meet_ne hK hS ht hu fun e => hut e.symm
  by_cases c1 : (s.of u).ended < (s.of t).began
  · exact c1
  · exfalso
    by_cases c2 : (s.of t).ended < (s.of u).began
    · have := key_prec hS ht hu c2
      omega
    · have : antiB t (s.of t) (s.of u) = true := by
        unfold antiB onceK
        rw [Bool.and_eq_true, Bool.and_eq_true, Bool.or_eq_true, Bool.or_eq_true, List.any_eq_true]
        refine ⟨⟨Or.inr (decide_eq_true (by omega)), Or.inr (decide_eq_true (by omega))⟩, e.2.1, by simpa [inB] using hw, ?_⟩
        unfold readK
        rw [List.any_eq_true]
        exact ⟨e, he, by simp [hne]⟩
      have := key_anti hK hp ht hu (fun e => hut e.symm) this
      omega
/-- NOBODY BETWEEN, AS IF ONE BEHIND THE OTHER. -/
theorem fekete (hK : KOk l k s) (hS : SOkK l s) (hp : pivL s.of s.done = false) : ∃ o : List Int, o.Nodup ∧ (∀ x, x ∈ o ↔ x ∈ s.done) ∧
    (∀ p t q, o = p ++ t :: q → ((s.of t).seen, (s.of t).wrote) = expK t (lastK s.of p) (ofL (l.take k) t)) ∧ ∀ item, lastK s.of o item = lastK s.of s.done item := by
  obtain ⟨o, h1, h2⟩ := sort_by (keyK s) s.done fun i hi j hj => key_inj hK hS hi hj
  refine ⟨o, h1.imp fun {a b} hab e => (by rw [e] at hab; omega), h2, fun p t q ho => ?_, fun item => ?_⟩
  · have ht : t ∈ s.done := (h2 t).1 (by rw [ho]; simp)
    rw [ho] at h1
    obtain ⟨r1, r2, r3⟩ := List.pairwise_append.1 h1
    have hpm : ∀ u, u ∈ p ↔ (u ∈ s.done ∧ keyK s u < keyK s t) := fun u => by
      constructor
      · exact fun hu => ⟨(h2 u).1 (by rw [ho]; exact List.mem_append_left _ hu), r3 u hu t (List.mem_cons_self ..)⟩
      · rintro ⟨hu, hlt⟩
        have hm := (h2 u).2 hu
        rw [ho] at hm
        rcases List.mem_append.1 hm with hm | hm
        · exact hm
        · rcases List.mem_cons.1 hm with e | hm
          · rw [e] at hlt; omega
          · have := (List.pairwise_cons.1 r2).1 u hm
            omega
    refine hK.sees t (hK.comm t ht).1 _ fun e he hne => ?_
    rw [hS.read t (hK.comm t ht).1 e he hne, who_by]
    have A := foldl_by (fun u => inB (s.of u).wrote e.2.1 && decide ((s.of u).ended < (s.of t).began)) (fun u => (s.of u).ended) hS.rise
    have B := foldl_by (fun u => inB (s.of u).wrote e.2.1) (keyK s) r1
    have B' := by_turn hK hS (item := e.2.1) (fun u hu => ⟨((hpm u).1 hu.1).1, hu.2⟩) B
    have hPQ : (fun u => u ∈ p ∧ inB (s.of u).wrote e.2.1 = true) = (fun u => u ∈ s.done ∧ (inB (s.of u).wrote e.2.1 && decide ((s.of u).ended < (s.of t).began)) = true) := funext fun u => propext (by
      rw [hpm u, Bool.and_eq_true, decide_eq_true_eq]
      constructor
      · rintro ⟨⟨a1, a2⟩, a3⟩
        exact ⟨a1, a3, (key_saw hK hS hp ht a1 he hne a3 (fun e => by rw [e] at a2; omega)).1 a2⟩
      · rintro ⟨a1, a2, a3⟩
        have := key_prec hS a1 ht a3
        exact ⟨⟨a1, this⟩, a2⟩)
    rw [hPQ] at B'
    exact by_uniq (fun u v hu hv => ended_inj hK hu.1 hv.1) A B'
  · have A := foldl_by (fun u => inB (s.of u).wrote item) (fun u => (s.of u).ended) hS.rise
    have B := by_turn hK hS (item := item) (fun u hu => ⟨(h2 u).1 hu.1, hu.2⟩) (foldl_by (fun u => inB (s.of u).wrote item) (keyK s) h1)
    have hPQ : (fun u => u ∈ o ∧ inB (s.of u).wrote item = true) = (fun u => u ∈ s.done ∧ inB (s.of u).wrote item = true) := funext fun u => propext (by rw [h2 u])
    rw [hPQ] at B
    exact by_uniq (fun u v hu hv => ended_inj hK hu.1 hv.1) B A
end
end Go.Proofs.YtccjognnehoodafDoor
