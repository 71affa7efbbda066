/-
  PROVED HERE: plain facts, with no word of the program: a run as package course goes over it (who is done; how many were when a deal began; what each read and wrote), by any two rules; if the rules answer as a kind of run (chapters 11 to 13) has it, it comes to the same.
  Conditions: none.
-/
import Derived.Test.YtccjognnehoodagKindAsk
namespace Go.Proofs.Ytccjognnehoodag

structure Crs where
  done : List Int
  began : Int → Option Nat
  read : Int → List Op3
  wrote : Int → List Int
def crs0 : Crs := ⟨[], fun _ => none, fun _ => [], fun _ => []⟩
def lastQ (wrote : Int → List Int) (done : List Int) (item : Int) : Int := done.foldl (fun f t => if inB (wrote t) item = true then t else f) 0
theorem lastQ_snoc (wrote : Int → List Int) (done : List Int) (t item : Int) : lastQ wrote (done ++ [t]) item = if inB (wrote t) item = true then t else lastQ wrote done item := by
  unfold lastQ; rw [List.foldl_append]; rfl
def begQ (q : Crs) (t : Int) : Crs := if (q.began t).isSome = true then q else { q with began := setF q.began t (some q.done.length) }
theorem begQ_done (q : Crs) (t : Int) : (begQ q t).done = q.done := by unfold begQ; split <;> rfl
theorem begQ_read (q : Crs) (t : Int) : (begQ q t).read = q.read := by unfold begQ; split <;> rfl
theorem begQ_wrote (q : Crs) (t : Int) : (begQ q t).wrote = q.wrote := by unfold begQ; split <;> rfl
def srcQ (seesF : Crs → Int → Int → Int) (q : Crs) (t item : Int) : Int := if inB (q.wrote t) item = true then t else seesF q t item
def readQ (q : Crs) (x : Op3) : Crs := { q with read := setF q.read x.1 (q.read x.1 ++ [x]) }
def writeQ (q : Crs) (t item : Int) : Crs := { q with wrote := setF q.wrote t (q.wrote t ++ [item]) }
def doneQ (q : Crs) (t : Int) : Crs := { q with done := q.done ++ [t] }
/-- An op comes. -/
def stepQ (seesF : Crs → Int → Int → Int) (fallF : Crs → Int → Bool) (q : Crs) (o : Op3) : Crs :=
  if o.2.1 = 1 then readQ (begQ q o.1) (o.1, o.2.2, srcQ seesF (begQ q o.1) o.1 o.2.2)
  else if o.2.1 = 2 then writeQ (begQ q o.1) o.1 o.2.2
  else if o.2.1 = 3 then (if fallF (begQ q o.1) o.1 = true then begQ q o.1 else doneQ (begQ q o.1) o.1)
  else begQ q o.1
def runQ (seesF : Crs → Int → Int → Int) (fallF : Crs → Int → Bool) (l : List Op3) : Nat → Crs
  | 0 => crs0
  | k + 1 => stepQ seesF fallF (runQ seesF fallF l k) (opAt l k)
/-- How great it can be. -/
structure CrsOk (m : Nat) (q : Crs) : Prop where
  lenD : q.done.length ≤ m
  lenR : ∀ t, (q.read t).length ≤ m
  lenW : ∀ t, (q.wrote t).length ≤ m
  six : ∀ t ∈ q.done, 1 ≤ t ∧ t ≤ 6
  cnt : ∀ t n, q.began t = some n → n ≤ q.done.length
  begs : ∀ t ∈ q.done, (q.began t).isSome = true
theorem crsOk0 : CrsOk 0 crs0 := ⟨Nat.le_refl _, fun _ => Nat.le_refl _, fun _ => Nat.le_refl _, fun _ h => (by cases h), fun _ _ h => (by cases h), fun _ h => (by cases h)⟩
theorem begQ_some (q : Crs) (t : Int) : ((begQ q t).began t).isSome = true := by
  unfold begQ
  split
  · assumption
  · show (setF q.began t (some q.done.length) t).isSome = true
    rw [setF_same]; rfl
section
variable {m : Nat} {q : Crs}
theorem CrsOk.more (h : CrsOk m q) : CrsOk (m + 1) q := ⟨by have := h.lenD; omega, fun t => by have := h.lenR t; omega, fun t => by have := h.lenW t; omega, h.six, h.cnt, h.begs⟩
theorem CrsOk.beg (h : CrsOk m q) (t : Int) : CrsOk m (begQ q t) := by
  refine ⟨by rw [begQ_done]; exact h.lenD, by rw [begQ_read]; exact h.lenR, by rw [begQ_wrote]; exact h.lenW, by rw [begQ_done]; exact h.six, fun u n hu => ?_, fun u hu => ?_⟩
  · rw [begQ_done]
    unfold begQ at hu
    split at hu
    · exact h.cnt u n hu
    · have hu' : setF q.began t (some q.done.length) u = some n := hu
      by_cases e : u = t
      · subst e; rw [setF_same] at hu'; cases hu'; exact Nat.le_refl _
      · rw [setF_other _ _ e] at hu'; exact h.cnt u n hu'
  · rw [begQ_done] at hu
    by_cases e : u = t
    · subst e; exact begQ_some q u
    · unfold begQ
      split
      · exact h.begs u hu
      · show (setF q.began t (some q.done.length) u).isSome = true
        rw [setF_other _ _ e]; exact h.begs u hu
theorem CrsOk.read (h : CrsOk m q) (x : Op3) : CrsOk (m + 1) (readQ q x) := by
  refine ⟨by have := h.lenD; show q.done.length ≤ _; omega, fun t => ?_, fun t => by have := h.lenW t; show (q.wrote t).length ≤ _; omega, h.six, h.cnt, h.begs⟩
  show (setF q.read x.1 (q.read x.1 ++ [x]) t).length ≤ _
  have h1 := h.lenR t
  by_cases e : t = x.1
  · subst e; rw [setF_same, List.length_append, List.length_singleton]; omega
  · rw [setF_other _ _ e]; omega
theorem CrsOk.write (h : CrsOk m q) (t item : Int) : CrsOk (m + 1) (writeQ q t item) := by
  refine ⟨by have := h.lenD; show q.done.length ≤ _; omega, fun t => by have := h.lenR t; show (q.read t).length ≤ _; omega, fun u => ?_, h.six, h.cnt, h.begs⟩
  show (setF q.wrote t (q.wrote t ++ [item]) u).length ≤ _
  have h1 := h.lenW u
  by_cases e : u = t
  · subst e; rw [setF_same, List.length_append, List.length_singleton]; omega
  · rw [setF_other _ _ e]; omega
theorem CrsOk.end_ (h : CrsOk m q) {t : Int} (h1 : 1 ≤ t) (h6 : t ≤ 6) (hbt : (q.began t).isSome = true) : CrsOk (m + 1) (doneQ q t) := by
  refine ⟨by have := h.lenD; show (q.done ++ [t]).length ≤ _; rw [List.length_append, List.length_singleton]; omega, fun t => by have := h.lenR t; show (q.read t).length ≤ _; omega, fun t => by have := h.lenW t; show (q.wrote t).length ≤ _; omega, fun u hu => ?_, fun u n hu => ?_, fun u hu => ?_⟩
  · rcases List.mem_append.1 hu with hu | hu
    · exact h.six u hu
    · rw [List.mem_singleton.1 hu]; exact ⟨h1, h6⟩
  · have := h.cnt u n hu
    show n ≤ (q.done ++ [t]).length
    rw [List.length_append, List.length_singleton]; omega
  · rcases List.mem_append.1 hu with hu | hu
    · exact h.begs u hu
    · rw [List.mem_singleton.1 hu]; exact hbt
theorem CrsOk.step (seesF : Crs → Int → Int → Int) (fallF : Crs → Int → Bool) (h : CrsOk m q) {o : Op3} (h1 : 1 ≤ o.1) (h6 : o.1 ≤ 6) : CrsOk (m + 1) (stepQ seesF fallF q o) := by
  unfold stepQ
  split
  · exact (h.beg _).read _
  · split
    · exact (h.beg _).write _ _
    · split
      · split
        · exact (h.beg _).more
        · exact (h.beg _).end_ h1 h6 (begQ_some _ _)
      · exact (h.beg _).more
end
theorem crsOk_all (seesF : Crs → Int → Int → Int) (fallF : Crs → Int → Bool) {l : List Op3} (hop : ∀ o ∈ l, isOpB o = true) : ∀ k, k ≤ l.length → CrsOk k (runQ seesF fallF l k) := by
  intro k
  induction k with
  | zero => intro _; exact crsOk0
  | succ k ih =>
    intro hk
    have hm : opAt l k ∈ l := by rw [opAt_at (by omega)]; exact List.getElem_mem _
    have h1 := isOp_range (hop _ hm)
    exact (ih (by omega)).step seesF fallF h1.1 h1.2
/-- It stands as the kind's run does. -/
structure CFit (s : Kst) (q : Crs) : Prop where
  done : q.done = s.done
  read : ∀ t, q.read t = (s.of t).seen
  wrote : ∀ t, q.wrote t = (s.of t).wrote
  beg : ∀ t, (q.began t).isSome = s.beg t
  cnt : ∀ t n, q.began t = some n → n ≤ s.done.length ∧ (∀ i ∈ s.done.take n, (s.of i).ended < (s.of t).began) ∧ ∀ i ∈ s.done.drop n, i ≠ t → (s.of t).began < (s.of i).ended
theorem cfit0 : CFit kst0 crs0 := ⟨rfl, fun _ => rfl, fun _ => rfl, fun _ => rfl, fun _ _ h => (by cases h)⟩
theorem mem_takeQ {l : List Int} {n : Nat} {i : Int} (h : i ∈ l.take n) : i ∈ l := List.mem_of_mem_take h
section
variable {l : List Op3} {k : Nat} {s : Kst} {q : Crs}
/-- A deal begins, if it has not. -/
theorem CFit.begin (h : CFit s q) (hK : KOk l k s) {t : Int} (hnd : t ∉ s.done) (hfr : s.beg t = false → s.of t = ⟨0, 0, [], []⟩) : CFit (stayStep s k t) (begQ q t) := by
  have hoth : ∀ i ∈ s.done, setF s.of t (nowK s k t) i = s.of i := fun i hi => setF_other _ _ fun e => hnd (e ▸ hi)
  have hb := h.beg t
  cases hbt : s.beg t with
  | true =>
    rw [hbt] at hb
    have e1 : begQ q t = q := by unfold begQ; rw [if_pos hb]
    have e2 : nowK s k t = s.of t := by unfold nowK; rw [if_pos hbt]
    have e3 : setF s.of t (nowK s k t) = s.of := by rw [e2]; funext u; by_cases e : u = t; · subst e; exact setF_same ..
                                                    · exact setF_other _ _ e
    have e4 : setF s.beg t true = s.beg := by funext u; by_cases e : u = t; · subst e; rw [setF_same, hbt]
                                              · exact setF_other _ _ e
    have e5 : stayStep s k t = s := by unfold stayStep; rw [e3, e4]
    rw [e1, e5]
    exact h
  | false =>
    rw [hbt] at hb
    have hq : begQ q t = { q with began := setF q.began t (some q.done.length) } := by unfold begQ; rw [if_neg (by rw [hb]; decide)]
    have e2 : nowK s k t = ⟨k, -1, [], []⟩ := by unfold nowK; rw [if_neg (by rw [hbt]; decide)]
    have hz := hfr hbt
    rw [hq]
    refine ⟨h.done, fun u => ?_, fun u => ?_, fun u => ?_, fun u n hu => ?_⟩
    · show q.read u = (setF s.of t (nowK s k t) u).seen
      by_cases e : u = t
      · subst e; rw [setF_same, e2, h.read u, hz]
      · rw [setF_other _ _ e]; exact h.read u
    · show q.wrote u = (setF s.of t (nowK s k t) u).wrote
      by_cases e : u = t
      · subst e; rw [setF_same, e2, h.wrote u, hz]
      · rw [setF_other _ _ e]; exact h.wrote u
    · show (setF q.began t (some q.done.length) u).isSome = setF s.beg t true u
      by_cases e : u = t
      · subst e; rw [setF_same, setF_same]; rfl
      · rw [setF_other _ _ e, setF_other _ _ e]; exact h.beg u
    · show n ≤ s.done.length ∧ (∀ i ∈ s.done.take n, (setF s.of t (nowK s k t) i).ended < (setF s.of t (nowK s k t) u).began) ∧ ∀ i ∈ s.done.drop n, i ≠ u → (setF s.of t (nowK s k t) u).began < (setF s.of t (nowK s k t) i).ended
      have hu' : setF q.began t (some q.done.length) u = some n := hu
      by_cases e : u = t
      · subst e
        rw [setF_same] at hu'
        have hn : n = s.done.length := by rw [← h.done]; exact (Option.some.inj hu').symm
        subst hn
        refine ⟨Nat.le_refl _, fun i hi => ?_, fun i hi => by rw [List.drop_length] at hi; cases hi⟩
        rw [setF_same, hoth i (mem_takeQ hi), e2]
        exact (hK.comm i (mem_takeQ hi)).2.2.2.2.1
      · rw [setF_other _ _ e] at hu'
        obtain ⟨a, b, c⟩ := h.cnt u n hu'
        refine ⟨a, fun i hi => ?_, fun i hi hiu => ?_⟩
        · rw [setF_other _ _ e, hoth i (mem_takeQ hi)]; exact b i hi
        · rw [setF_other _ _ e, hoth i (List.mem_of_mem_drop hi)]; exact c i hi hiu
/-- What a deal saw or wrote grows; when it began, who is done stays. -/
theorem CFit.grow (h : CFit s q) {t : Int} (r : Dl) (lk : List Op3) (q1 : Crs) (hd : q1.done = q.done) (hb : q1.began = q.began) (hr : ∀ u, q1.read u = (setF s.of t r u).seen) (hw : ∀ u, q1.wrote u = (setF s.of t r u).wrote) (hbt : s.beg t = true) (h1 : r.began = (s.of t).began) (h2 : r.ended = (s.of t).ended) : CFit ⟨s.done, setF s.of t r, s.beg, lk⟩ q1 := by
  have hB : ∀ u, (setF s.of t r u).began = (s.of u).began := fun u => by
    by_cases e : u = t
    · subst e; rw [setF_same]; exact h1
    · rw [setF_other _ _ e]
  have hE : ∀ u, (setF s.of t r u).ended = (s.of u).ended := fun u => by
    by_cases e : u = t
    · subst e; rw [setF_same]; exact h2
    · rw [setF_other _ _ e]
  refine ⟨by rw [hd]; exact h.done, hr, hw, fun u => by rw [hb]; exact h.beg u, fun u n hu => ?_⟩
  rw [hb] at hu
  obtain ⟨a, b, c⟩ := h.cnt u n hu
  show n ≤ s.done.length ∧ (∀ i ∈ s.done.take n, (setF s.of t r i).ended < (setF s.of t r u).began) ∧ ∀ i ∈ s.done.drop n, i ≠ u → (setF s.of t r u).began < (setF s.of t r i).ended
  refine ⟨a, fun i hi => ?_, fun i hi hiu => ?_⟩
  · rw [hE, hB]; exact b i hi
  · rw [hE, hB]; exact c i hi hiu
end
/-- What a Read sees of what its deal did not write. -/
def seeK (kind : Int) (s : Kst) (at_ : Int) (r : Dl) (t item : Int) : Int := if kind = 1 then whoK s.done s.of item at_ 0 else if kind = 4 then whoK s.done s.of item at_ t else whoK s.done s.of item r.began 0
theorem from_see (kind : Int) (s : Kst) (at_ : Int) (r : Dl) (t item : Int) : fromK kind s at_ r t item = if inB r.wrote item = true then t else seeK kind s at_ r t item := rfl
theorem set_set {α : Type} (f : Int → α) (t : Int) (a b : α) : setF (setF f t a) t b = setF f t b := by
  funext u
  by_cases e : u = t
  · subst e; rw [setF_same, setF_same]
  · rw [setF_other _ _ e, setF_other _ _ e, setF_other _ _ e]
/-- The rules answer as the kind has it. -/
def RulesK (kind : Int) (okF : Kst → Int → Dl → Bool) (seesF : Crs → Int → Int → Int) (fallF : Crs → Int → Bool) : Prop :=
  ∀ (l : List Op3) (k : Nat) (s : Kst) (q : Crs) (t : Int), KOk l k s → CFit s q → CFit (stayStep s k t) (begQ q t) → t ∉ s.done → 1 ≤ t → t ≤ 6 →
    (∀ item, seesF (begQ q t) t item = seeK kind s k (nowK s k t) t item) ∧ fallF (begQ q t) t = !okF s t (nowK s k t)
/-- .. of this run. -/
def RulesAt (l : List Op3) (kind : Int) (okF : Kst → Int → Dl → Bool) (seesF : Crs → Int → Int → Int) (fallF : Crs → Int → Bool) : Prop :=
  ∀ (k : Nat) (s : Kst) (q : Crs) (t : Int), k ≤ l.length → s = runK kind okF l k → KOk l k s → CFit s q → CFit (stayStep s k t) (begQ q t) → t ∉ s.done → 1 ≤ t → t ≤ 6 →
    (∀ item, seesF (begQ q t) t item = seeK kind s k (nowK s k t) t item) ∧ fallF (begQ q t) t = !okF s t (nowK s k t)
theorem RulesK.at {kind : Int} {okF : Kst → Int → Dl → Bool} {seesF : Crs → Int → Int → Int} {fallF : Crs → Int → Bool} (h : RulesK kind okF seesF fallF) (l : List Op3) : RulesAt l kind okF seesF fallF := fun k s q t _ _ h1 h2 h3 h4 h5 h6 => h l k s q t h1 h2 h3 h4 h5 h6
theorem cfit_step {kind : Int} {okF : Kst → Int → Dl → Bool} {seesF : Crs → Int → Int → Int} {fallF : Crs → Int → Bool} {l : List Op3} (hR : RulesAt l kind okF seesF fallF) {k : Nat} {s : Kst} {q : Crs} (hkl : k ≤ l.length) (hsr : s = runK kind okF l k) (h : CFit s q) (hK : KOk l k s) {o : Op3} (hnd : o.1 ∉ s.done) (hfr : s.beg o.1 = false → s.of o.1 = ⟨0, 0, [], []⟩) (ho1 : 1 ≤ o.1) (ho6 : o.1 ≤ 6) :
    CFit (stepK kind okF s k o) (stepQ seesF fallF q o) := by
  obtain ⟨t, a, i⟩ := o
  simp only at hnd hfr ho1 ho6
  have h1 := h.begin hK hnd hfr
  obtain ⟨hs, hf⟩ := hR k s q t hkl hsr hK h h1 hnd ho1 ho6
  have hbt : (stayStep s k t).beg t = true := by show setF s.beg t true t = true; exact setF_same ..
  have hof : (stayStep s k t).of t = nowK s k t := by show setF s.of t _ t = _; exact setF_same ..
  unfold stepK stepQ
  simp only
  split
  · have hsrc : srcQ seesF (begQ q t) t i = fromK kind s k (nowK s k t) t i := by
      unfold srcQ
      rw [from_see, h1.wrote t, hof, hs i]
    rw [hsrc]
    unfold readStep
    have := h1.grow (t := t) { nowK s k t with seen := (nowK s k t).seen ++ [(t, i, fromK kind s k (nowK s k t) t i)] } (if kind = 4 ∧ inB (nowK s k t).wrote i = false then s.looks ++ [(t, i, fromK kind s k (nowK s k t) t i)] else s.looks) (readQ (begQ q t) (t, i, fromK kind s k (nowK s k t) t i)) rfl rfl (fun u => ?_) (fun u => ?_) hbt (by rw [hof]) (by rw [hof])
    · have e : setF (stayStep s k t).of t { nowK s k t with seen := (nowK s k t).seen ++ [(t, i, fromK kind s k (nowK s k t) t i)] } = setF s.of t { nowK s k t with seen := (nowK s k t).seen ++ [(t, i, fromK kind s k (nowK s k t) t i)] } := set_set _ _ _ _
      rw [e] at this
      exact this
    · show setF (begQ q t).read t ((begQ q t).read t ++ [(t, i, fromK kind s k (nowK s k t) t i)]) u = _
      by_cases e : u = t
      · subst e; rw [setF_same, setF_same, h1.read u, hof]
      · rw [setF_other _ _ e, setF_other _ _ e]; exact h1.read u
    · show (begQ q t).wrote u = _
      by_cases e : u = t
      · subst e; rw [setF_same, h1.wrote u, hof]
      · rw [setF_other _ _ e]; exact h1.wrote u
  · split
    · unfold writeStep
      have := h1.grow (t := t) { nowK s k t with wrote := (nowK s k t).wrote ++ [i] } s.looks (writeQ (begQ q t) t i) rfl rfl (fun u => ?_) (fun u => ?_) hbt (by rw [hof]) (by rw [hof])
      · have e : setF (stayStep s k t).of t { nowK s k t with wrote := (nowK s k t).wrote ++ [i] } = setF s.of t { nowK s k t with wrote := (nowK s k t).wrote ++ [i] } := set_set _ _ _ _
        rw [e] at this
        exact this
      · show (begQ q t).read u = _
        by_cases e : u = t
        · subst e; rw [setF_same, h1.read u, hof]
        · rw [setF_other _ _ e]; exact h1.read u
      · show setF (begQ q t).wrote t ((begQ q t).wrote t ++ [i]) u = _
        by_cases e : u = t
        · subst e; rw [setF_same, setF_same, h1.wrote u, hof]
        · rw [setF_other _ _ e, setF_other _ _ e]; exact h1.wrote u
    · split
      · rw [hf]
        cases hok : okF s t (nowK s k t) with
        | false =>
          rw [if_neg (by decide), if_pos (by decide)]
          exact h1
        | true =>
          rw [if_pos rfl, if_neg (by decide)]
          unfold doneStep
          have hoth : ∀ u, u ≠ t → setF s.of t { nowK s k t with ended := (k : Int) } u = s.of u := fun u hu => setF_other _ _ hu
          refine ⟨?_, fun u => ?_, fun u => ?_, fun u => h1.beg u, fun u n hu => ?_⟩
          · show (begQ q t).done ++ [t] = s.done ++ [t]
            rw [h1.done]; rfl
          · show (begQ q t).read u = (setF s.of t { nowK s k t with ended := (k : Int) } u).seen
            by_cases e : u = t
            · subst e; rw [setF_same, h1.read u, hof]
            · rw [hoth u e, begQ_read]; exact h.read u
          · show (begQ q t).wrote u = (setF s.of t { nowK s k t with ended := (k : Int) } u).wrote
            by_cases e : u = t
            · subst e; rw [setF_same, h1.wrote u, hof]
            · rw [hoth u e, begQ_wrote]; exact h.wrote u
          · show n ≤ (s.done ++ [t]).length ∧ (∀ i ∈ (s.done ++ [t]).take n, (setF s.of t { nowK s k t with ended := (k : Int) } i).ended < (setF s.of t { nowK s k t with ended := (k : Int) } u).began) ∧ ∀ i ∈ (s.done ++ [t]).drop n, i ≠ u → (setF s.of t { nowK s k t with ended := (k : Int) } u).began < (setF s.of t { nowK s k t with ended := (k : Int) } i).ended
            have hu1 : (begQ q t).began u = some n := hu
            have hbu : (setF s.of t { nowK s k t with ended := (k : Int) } u).began = (setF s.of t (nowK s k t) u).began := by
              by_cases e : u = t
              · subst e; rw [setF_same, setF_same]
              · rw [setF_other _ _ e, setF_other _ _ e]
            obtain ⟨a, b, c⟩ := h1.cnt u n hu1
            have a' : n ≤ s.done.length := a
            have b' : ∀ i ∈ s.done.take n, (setF s.of t (nowK s k t) i).ended < (setF s.of t (nowK s k t) u).began := b
            have c' : ∀ i ∈ s.done.drop n, i ≠ u → (setF s.of t (nowK s k t) u).began < (setF s.of t (nowK s k t) i).ended := c
            have hne : ∀ i ∈ s.done, i ≠ t := fun i hi e => hnd (e ▸ hi)
            refine ⟨by rw [List.length_append, List.length_singleton]; omega, fun i hi => ?_, fun i hi hiu => ?_⟩
            · rw [List.take_append_of_le_length a'] at hi
              have := b' i hi
              rw [setF_other _ _ (hne i (mem_takeQ hi))] at this ⊢
              rw [hbu]
              exact this
            · rw [List.drop_append_of_le_length a'] at hi
              rw [hbu]
              rcases List.mem_append.1 hi with hi | hi
              · have := c' i hi hiu
                rw [setF_other _ _ (hne i (List.mem_of_mem_drop hi))] at this ⊢
                exact this
              · have hit := List.mem_singleton.1 hi
                have hut : u ≠ t := fun e => hiu (hit.trans e.symm)
                have hub : s.beg u = true := by
                  have := h1.beg u
                  rw [hu1] at this
                  have h5 : setF s.beg t true u = true := this.symm
                  rw [setF_other _ _ hut] at h5
                  exact h5
                rw [hit, setF_same, setF_other _ _ hut]
                exact (hK.times u hub).2
      · exact h1
theorem of_fresh (kind : Int) (okF : Kst → Int → Dl → Bool) (l : List Op3) : ∀ k t, (runK kind okF l k).beg t = false → (runK kind okF l k).of t = ⟨0, 0, [], []⟩ := by
  intro k
  induction k with
  | zero => intro t _; rfl
  | succ k ih =>
    intro t ht
    have key : ∀ r : Dl, setF (runK kind okF l k).beg (opAt l k).1 true t = false → setF (runK kind okF l k).of (opAt l k).1 r t = ⟨0, 0, [], []⟩ := fun r hb => by
      have hne : t ≠ (opAt l k).1 := fun e => by rw [e, setF_same] at hb; cases hb
      rw [setF_other _ _ hne] at hb ⊢
      exact ih t hb
    have ht' : (stepK kind okF (runK kind okF l k) k (opAt l k)).beg t = false := ht
    show (stepK kind okF (runK kind okF l k) k (opAt l k)).of t = _
    unfold stepK at ht' ⊢
    split at ht'
    · rename_i h1; rw [if_pos h1]; exact key _ ht'
    · rename_i h1
      rw [if_neg h1]
      split at ht'
      · rename_i h2; rw [if_pos h2]; exact key _ ht'
      · rename_i h2
        rw [if_neg h2]
        split at ht'
        · rename_i h3
          rw [if_pos h3]
          split at ht'
          · rename_i h4; rw [if_pos h4]; exact key _ ht'
          · rename_i h4; rw [if_neg h4]; exact key _ ht'
        · rename_i h3; rw [if_neg h3]; exact key _ ht'
theorem cfit_at {kind : Int} {okF : Kst → Int → Dl → Bool} {seesF : Crs → Int → Int → Int} {fallF : Crs → Int → Bool} {l : List Op3} (hR : RulesAt l kind okF seesF fallF) (hc : (chk l).2 = 0) : ∀ k, k ≤ l.length → CFit (runK kind okF l k) (runQ seesF fallF l k) := by
  intro k
  induction k with
  | zero => intro _; exact cfit0
  | succ k ih =>
    intro hk
    have hK := run_kOk kind okF hc k (by omega)
    have h16 := isOp_range (((chk_iff l).1 hc).2.1 _ (opAt_mem (show k < l.length by omega)))
    exact cfit_step hR (by omega) rfl (ih (by omega)) hK (hK.free ((chk_iff l).1 hc).2.2 (by omega)) (of_fresh kind okF l k _) h16.1 h16.2
theorem cfit_all {kind : Int} {okF : Kst → Int → Dl → Bool} {seesF : Crs → Int → Int → Int} {fallF : Crs → Int → Bool} (hR : RulesK kind okF seesF fallF) {l : List Op3} (hc : (chk l).2 = 0) : ∀ k, k ≤ l.length → CFit (runK kind okF l k) (runQ seesF fallF l k) := cfit_at (hR.at l) hc
/-- What it comes to. -/
theorem crs_at {kind : Int} {okF : Kst → Int → Dl → Bool} {seesF : Crs → Int → Int → Int} {fallF : Crs → Int → Bool} (byN : Bool) {l : List Op3} (hR : RulesAt l kind okF seesF fallF) (hc : (chk l).2 = 0) :
    outU kind okF byN l = ((ordN byN (runQ seesF fallF l l.length).done, (ordN byN (runQ seesF fallF l l.length).done).flatMap (runQ seesF fallF l l.length).read, (List.range 6).map fun i : Nat => lastQ (runQ seesF fallF l l.length).wrote (ordN byN (runQ seesF fallF l l.length).done) ((i : Int) + 1)), 0) := by
  have h := cfit_at hR hc l.length (Nat.le_refl _)
  rw [outU_ok hc]
  have e1 : (runQ seesF fallF l l.length).read = fun t => ((runK kind okF l l.length).of t).seen := funext h.read
  have e2 : (runQ seesF fallF l l.length).wrote = fun t => ((runK kind okF l l.length).of t).wrote := funext h.wrote
  rw [e1, e2, h.done]
  rfl
theorem crs_out {kind : Int} {okF : Kst → Int → Dl → Bool} {seesF : Crs → Int → Int → Int} {fallF : Crs → Int → Bool} (hR : RulesK kind okF seesF fallF) {l : List Op3} (hc : (chk l).2 = 0) :
    outU kind okF false l = (((runQ seesF fallF l l.length).done, (runQ seesF fallF l l.length).done.flatMap (runQ seesF fallF l l.length).read, (List.range 6).map fun i : Nat => lastQ (runQ seesF fallF l l.length).wrote (runQ seesF fallF l l.length).done ((i : Int) + 1)), 0) := crs_at false (hR.at l) hc
/-- Chapter 11's rules. -/
def seesV (q : Crs) (_ item : Int) : Int := lastQ q.wrote q.done item
def fallV (q : Crs) (t : Int) : Bool := (q.done.drop ((q.began t).getD 0)).any fun o => (q.read t).any fun x => x.2.2 != t && inB (q.wrote o) x.2.1
theorem rulesV : RulesK 1 okV seesV fallV := by
  intro l k s q t hK h h1 hnd _ _
  constructor
  · intro item
    unfold seesV seeK
    rw [if_pos rfl, begQ_done, begQ_wrote, h.done, who_last (fun i hi => (hK.comm i hi).2.2.2.2.1)]
    unfold lastQ lastK
    have e2 : q.wrote = fun t => (s.of t).wrote := funext h.wrote
    rw [e2]
  · have hb : ((begQ q t).began t).isSome = true := by rw [h1.beg t]; show setF s.beg t true t = true; exact setF_same ..
    obtain ⟨n, hn⟩ := Option.isSome_iff_exists.1 hb
    obtain ⟨a, b, c⟩ := h1.cnt t n hn
    have hof : (stayStep s k t).of t = nowK s k t := by show setF s.of t _ t = _; exact setF_same ..
    have hoth : ∀ i ∈ s.done, (stayStep s k t).of i = s.of i := fun i hi => by show setF s.of t _ i = _; exact setF_other _ _ fun e => hnd (e ▸ hi)
    have a' : n ≤ s.done.length := a
    have b' : ∀ i ∈ s.done.take n, ((stayStep s k t).of i).ended < ((stayStep s k t).of t).began := b
    have c' : ∀ i ∈ s.done.drop n, i ≠ t → ((stayStep s k t).of t).began < ((stayStep s k t).of i).ended := c
    unfold fallV okV hitK
    rw [Bool.not_not, hn, begQ_done, h.done, h1.read t, hof, begQ_wrote, Bool.eq_iff_iff]
    simp only [Option.getD_some, List.any_eq_true, Bool.and_eq_true, decide_eq_true_eq]
    constructor
    · rintro ⟨i, hi, x, hx, hxt, hw⟩
      have hi' := List.mem_of_mem_drop hi
      have hc' := c' i hi fun e => hnd (e ▸ hi')
      rw [hof, hoth i hi'] at hc'
      rw [h.wrote i] at hw
      refine ⟨i, hi', x.2.1, inB_iff.1 hw, hc', ?_⟩
      rw [if_neg (by decide)]
      exact List.any_eq_true.2 ⟨x, hx, by simp only [Bool.and_eq_true, beq_self_eq_true, true_and]; exact hxt⟩
    · rintro ⟨i, hi, item, hit, hlt, hrd⟩
      rw [if_neg (by decide)] at hrd
      obtain ⟨x, hx, hxx⟩ := List.any_eq_true.1 hrd
      simp only [Bool.and_eq_true, beq_iff_eq] at hxx
      refine ⟨i, ?_, x, hx, hxx.2, ?_⟩
      · rcases List.mem_append.1 (by rw [List.take_append_drop]; exact hi : i ∈ s.done.take n ++ s.done.drop n) with hm | hm
        · have := b' i hm
          rw [hof, hoth i hi] at this
          omega
        · exact hm
      · rw [h.wrote i, hxx.1]; exact inB_iff.2 hit
end Go.Proofs.Ytccjognnehoodag
