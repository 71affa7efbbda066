/-
  PROVED HERE: plain facts, with no word of the program: a run as package course goes over it (who is done; how many were when a deal began; what each read and wrote), by any two rules; if the rules answer as a kind of run (chapters 11 to 13) has it, it comes to the same.
  Conditions: none.
  PROVED HERE: how a run of package course (two rules, who is done, three maps: when deals began, what each read, what each wrote) lies in memory that was made since a world: a block, three maps, fifteen rows, all apart; what becomes of it when one of its parts is set.
  Conditions: none.
-/
import Derived.Test.YtccjognnehoodagMgba
import Derived.Test.YtccjognnehoodagMgas
import Derived.Test.YtccjognnehoodagMgaw
namespace Go.Proofs.Ytccjognnehoodag

structure Crs where
  done : List Int
  began : Int → Option Nat
  read : Int → List Op3
  wrote : Int → List Int
def crs0 : Crs := ⟨[], fun _ => none, fun _ => [], fun _ => []⟩
def lastQ (wrote : Int → List Int) (done : List Int) (item : Int) : Int := done.foldl (fun f t => if inB (wrote t) item = true then t else f) 0
theorem lastQ_snoc (wrote : Int → List Int) (done : List Int) (t item : Int) : lastQ wrote (done ++ [t]) item = if inB (wrote t) item = true then t else lastQ wrote done item := by
  unfold lastQ; rw [List.foldl_append]; rfl
def begQ (q : Crs) (t : Int) : Crs := if (q.began t).isSome = true then q else { q with began := setF q.began t (some q.done.length) }
theorem begQ_done (q : Crs) (t : Int) : (begQ q t).done = q.done := by unfold begQ; split <;> rfl
theorem begQ_read (q : Crs) (t : Int) : (begQ q t).read = q.read := by unfold begQ; split <;> rfl
theorem begQ_wrote (q : Crs) (t : Int) : (begQ q t).wrote = q.wrote := by unfold begQ; split <;> rfl
def srcQ (seesF : Crs → Int → Int → Int) (q : Crs) (t item : Int) : Int := if inB (q.wrote t) item = true then t else seesF q t item
def readQ (q : Crs) (x : Op3) : Crs := { q with read := setF q.read x.1 (q.read x.1 ++ [x]) }
def writeQ (q : Crs) (t item : Int) : Crs := { q with wrote := setF q.wrote t (q.wrote t ++ [item]) }
def doneQ (q : Crs) (t : Int) : Crs := { q with done := q.done ++ [t] }
/-- An op comes. -/
def stepQ (seesF : Crs → Int → Int → Int) (fallF : Crs → Int → Bool) (q : Crs) (o : Op3) : Crs :=
  if o.2.1 = 1 then readQ (begQ q o.1) (o.1, o.2.2, srcQ seesF (begQ q o.1) o.1 o.2.2)
  else if o.2.1 = 2 then writeQ (begQ q o.1) o.1 o.2.2
  else if o.2.1 = 3 then (if fallF (begQ q o.1) o.1 = true then begQ q o.1 else doneQ (begQ q o.1) o.1)
  else begQ q o.1
def runQ (seesF : Crs → Int → Int → Int) (fallF : Crs → Int → Bool) (l : List Op3) : Nat → Crs
  | 0 => crs0
  | k + 1 => stepQ seesF fallF (runQ seesF fallF l k) (opAt l k)
/-- How great it can be. -/
structure CrsOk (m : Nat) (q : Crs) : Prop where
  lenD : q.done.length ≤ m
  lenR : ∀ t, (q.read t).length ≤ m
  lenW : ∀ t, (q.wrote t).length ≤ m
  six : ∀ t ∈ q.done, 1 ≤ t ∧ t ≤ 6
  cnt : ∀ t n, q.began t = some n → n ≤ q.done.length
  begs : ∀ t ∈ q.done, (q.began t).isSome = true
theorem crsOk0 : CrsOk 0 crs0 := ⟨Nat.le_refl _, fun _ => Nat.le_refl _, fun _ => Nat.le_refl _, fun _ h => (by cases h), fun _ _ h => (by cases h), fun _ h => (by cases h)⟩
theorem begQ_some (q : Crs) (t : Int) : ((begQ q t).began t).isSome = true := by
  unfold begQ
  split
  · assumption
  · show (setF q.began t (some q.done.length) t).isSome = true
    rw [setF_same]; rfl
section
variable {m : Nat} {q : Crs}
theorem CrsOk.more (h : CrsOk m q) : CrsOk (m + 1) q := ⟨by have := h.lenD; omega, fun t => by have := h.lenR t; omega, fun t => by have := h.lenW t; omega, h.six, h.cnt, h.begs⟩
theorem CrsOk.beg (h : CrsOk m q) (t : Int) : CrsOk m (begQ q t) := by
  refine ⟨by rw [begQ_done]; exact h.lenD, by rw [begQ_read]; exact h.lenR, by rw [begQ_wrote]; exact h.lenW, by rw [begQ_done]; exact h.six, fun u n hu => ?_, fun u hu => ?_⟩
  · rw [begQ_done]
    unfold begQ at hu
    split at hu
    · exact h.cnt u n hu
    · have hu' : setF q.began t (some q.done.length) u = some n := hu
      by_cases e : u = t
      · subst e; rw [setF_same] at hu'; cases hu'; exact Nat.le_refl _
      · rw [setF_other _ _ e] at hu'; exact h.cnt u n hu'
  · rw [begQ_done] at hu
    by_cases e : u = t
    · subst e; exact begQ_some q u
    · unfold begQ
      split
      · exact h.begs u hu
      · show (setF q.began t (some q.done.length) u).isSome = true
        rw [setF_other _ _ e]; exact h.begs u hu
theorem CrsOk.read (h : CrsOk m q) (x : Op3) : CrsOk (m + 1) (readQ q x) := by
  refine ⟨by have := h.lenD; show q.done.length ≤ _; omega, fun t => ?_, fun t => by have := h.lenW t; show (q.wrote t).length ≤ _; omega, h.six, h.cnt, h.begs⟩
  show (setF q.read x.1 (q.read x.1 ++ [x]) t).length ≤ _
  have h1 := h.lenR t
  by_cases e : t = x.1
  · subst e; rw [setF_same, List.length_append, List.length_singleton]; omega
  · rw [setF_other _ _ e]; omega
theorem CrsOk.write (h : CrsOk m q) (t item : Int) : CrsOk (m + 1) (writeQ q t item) := by
  refine ⟨by have := h.lenD; show q.done.length ≤ _; omega, fun t => by have := h.lenR t; show (q.read t).length ≤ _; omega, fun u => ?_, h.six, h.cnt, h.begs⟩
  show (setF q.wrote t (q.wrote t ++ [item]) u).length ≤ _
  have h1 := h.lenW u
  by_cases e : u = t
  · subst e; rw [setF_same, List.length_append, List.length_singleton]; omega
  · rw [setF_other _ _ e]; omega
theorem CrsOk.end_ (h : CrsOk m q) {t : Int} (h1 : 1 ≤ t) (h6 : t ≤ 6) (hbt : (q.began t).isSome = true) : CrsOk (m + 1) (doneQ q t) := by
  refine ⟨by have := h.lenD; show (q.done ++ [t]).length ≤ _; rw [List.length_append, List.length_singleton]; omega, fun t => by have := h.lenR t; show (q.read t).length ≤ _; omega, fun t => by have := h.lenW t; show (q.wrote t).length ≤ _; omega, fun u hu => ?_, fun u n hu => ?_, fun u hu => ?_⟩
  · rcases List.mem_append.1 hu with hu | hu
    · exact h.six u hu
    · rw [List.mem_singleton.1 hu]; exact ⟨h1, h6⟩
  · have := h.cnt u n hu
    show n ≤ (q.done ++ [t]).length
    rw [List.length_append, List.length_singleton]; omega
  · rcases List.mem_append.1 hu with hu | hu
    · exact h.begs u hu
    · rw [List.mem_singleton.1 hu]; exact hbt
theorem CrsOk.step (seesF : Crs → Int → Int → Int) (fallF : Crs → Int → Bool) (h : CrsOk m q) {o : Op3} (h1 : 1 ≤ o.1) (h6 : o.1 ≤ 6) : CrsOk (m + 1) (stepQ seesF fallF q o) := by
  unfold stepQ
  split
  · exact (h.beg _).read _
  · split
    · exact (h.beg _).write _ _
    · split
      · split
        · exact (h.beg _).more
        · exact (h.beg _).end_ h1 h6 (begQ_some _ _)
      · exact (h.beg _).more
end
theorem crsOk_all (seesF : Crs → Int → Int → Int) (fallF : Crs → Int → Bool) {l : List Op3} (hop : ∀ o ∈ l, isOpB o = true) : ∀ k, k ≤ l.length → CrsOk k (runQ seesF fallF l k) := by
  intro k
  induction k with
  | zero => intro _; exact crsOk0
  | succ k ih =>
    intro hk
    have hm : opAt l k ∈ l := by rw [opAt_at (by omega)]; exact List.getElem_mem _
    have h1 := isOp_range (hop _ hm)
    exact (ih (by omega)).step seesF fallF h1.1 h1.2
/-- It stands as the kind's run does. -/
structure CFit (s : Kst) (q : Crs) : Prop where
  done : q.done = s.done
  read : ∀ t, q.read t = (s.of t).seen
  wrote : ∀ t, q.wrote t = (s.of t).wrote
  beg : ∀ t, (q.began t).isSome = s.beg t
  cnt : ∀ t n, q.began t = some n → n ≤ s.done.length ∧ (∀ i ∈ s.done.take n, (s.of i).ended < (s.of t).began) ∧ ∀ i ∈ s.done.drop n, i ≠ t → (s.of t).began < (s.of i).ended
theorem cfit0 : CFit kst0 crs0 := ⟨rfl, fun _ => rfl, fun _ => rfl, fun _ => rfl, fun _ _ h => (by cases h)⟩
theorem mem_takeQ {l : List Int} {n : Nat} {i : Int} (h : i ∈ l.take n) : i ∈ l := List.mem_of_mem_take h
section
variable {l : List Op3} {k : Nat} {s : Kst} {q : Crs}
/-- A deal begins, if it has not. -/
theorem CFit.begin (h : CFit s q) (hK : KOk l k s) {t : Int} (hnd : t ∉ s.done) (hfr : s.beg t = false → s.of t = ⟨0, 0, [], []⟩) : CFit (stayStep s k t) (begQ q t) := by
  have hoth : ∀ i ∈ s.done, setF s.of t (nowK s k t) i = s.of i := fun i hi => setF_other _ _ fun e => hnd (e ▸ hi)
  have hb := h.beg t
  cases hbt : s.beg t with
  | true =>
    rw [hbt] at hb
    have e1 : begQ q t = q := by unfold begQ; rw [if_pos hb]
    have e2 : nowK s k t = s.of t := by unfold nowK; rw [if_pos hbt]
    have e3 : setF s.of t (nowK s k t) = s.of := by rw [e2]; funext u; by_cases e : u = t; · subst e; exact setF_same ..
                                                    · exact setF_other _ _ e
    have e4 : setF s.beg t true = s.beg := by funext u; by_cases e : u = t; · subst e; rw [setF_same, hbt]
                                              · exact setF_other _ _ e
    have e5 : stayStep s k t = s := by unfold stayStep; rw [e3, e4]
    rw [e1, e5]
    exact h
  | false =>
    rw [hbt] at hb
    have hq : begQ q t = { q with began := setF q.began t (some q.done.length) } := by unfold begQ; rw [if_neg (by rw [hb]; decide)]
    have e2 : nowK s k t = ⟨k, -1, [], []⟩ := by unfold nowK; rw [if_neg (by rw [hbt]; decide)]
    have hz := hfr hbt
    rw [hq]
    refine ⟨h.done, fun u => ?_, fun u => ?_, fun u => ?_, fun u n hu => ?_⟩
    · show q.read u = (setF s.of t (nowK s k t) u).seen
      by_cases e : u = t
      · subst e; rw [setF_same, e2, h.read u, hz]
      · rw [setF_other _ _ e]; exact h.read u
    · show q.wrote u = (setF s.of t (nowK s k t) u).wrote
      by_cases e : u = t
      · subst e; rw [setF_same, e2, h.wrote u, hz]
      · rw [setF_other _ _ e]; exact h.wrote u
    · show (setF q.began t (some q.done.length) u).isSome = setF s.beg t true u
      by_cases e : u = t
      · subst e; rw [setF_same, setF_same]; rfl
      · rw [setF_other _ _ e, setF_other _ _ e]; exact h.beg u
    · show n ≤ s.done.length ∧ (∀ i ∈ s.done.take n, (setF s.of t (nowK s k t) i).ended < (setF s.of t (nowK s k t) u).began) ∧ ∀ i ∈ s.done.drop n, i ≠ u → (setF s.of t (nowK s k t) u).began < (setF s.of t (nowK s k t) i).ended
      have hu' : setF q.began t (some q.done.length) u = some n := hu
      by_cases e : u = t
      · subst e
        rw [setF_same] at hu'
        have hn : n = s.done.length := by rw [← h.done]; exact (Option.some.inj hu').symm
        subst hn
        refine ⟨Nat.le_refl _, fun i hi => ?_, fun i hi => by rw [List.drop_length] at hi; cases hi⟩
        rw [setF_same, hoth i (mem_takeQ hi), e2]
        exact (hK.comm i (mem_takeQ hi)).2.2.2.2.1
      · rw [setF_other _ _ e] at hu'
        obtain ⟨a, b, c⟩ := h.cnt u n hu'
        refine ⟨a, fun i hi => ?_, fun i hi hiu => ?_⟩
        · rw [setF_other _ _ e, hoth i (mem_takeQ hi)]; exact b i hi
        · rw [setF_other _ _ e, hoth i (List.mem_of_mem_drop hi)]; exact c i hi hiu
/-- What a deal saw or wrote grows; when it began, who is done stays. -/
theorem CFit.grow (h : CFit s q) {t : Int} (r : Dl) (lk : List Op3) (q1 : Crs) (hd : q1.done = q.done) (hb : q1.began = q.began) (hr : ∀ u, q1.read u = (setF s.of t r u).seen) (hw : ∀ u, q1.wrote u = (setF s.of t r u).wrote) (hbt : s.beg t = true) (h1 : r.began = (s.of t).began) (h2 : r.ended = (s.of t).ended) : CFit ⟨s.done, setF s.of t r, s.beg, lk⟩ q1 := by
  have hB : ∀ u, (setF s.of t r u).began = (s.of u).began := fun u => by
    by_cases e : u = t
    · subst e; rw [setF_same]; exact h1
    · rw [setF_other _ _ e]
  have hE : ∀ u, (setF s.of t r u).ended = (s.of u).ended := fun u => by
    by_cases e : u = t
    · subst e; rw [setF_same]; exact h2
    · rw [setF_other _ _ e]
  refine ⟨by rw [hd]; exact h.done, hr, hw, fun u => by rw [hb]; exact h.beg u, fun u n hu => ?_⟩
  rw [hb] at hu
  obtain ⟨a, b, c⟩ := h.cnt u n hu
  show n ≤ s.done.length ∧ (∀ i ∈ s.done.take n, (setF s.of t r i).ended < (setF s.of t r u).began) ∧ ∀ i ∈ s.done.drop n, i ≠ u → (setF s.of t r u).began < (setF s.of t r i).ended
  refine ⟨a, fun i hi => ?_, fun i hi hiu => ?_⟩
  · rw [hE, hB]; exact b i hi
  · rw [hE, hB]; exact c i hi hiu
end
/-- What a Read sees of what its deal did not write. -/
def seeK (kind : Int) (s : Kst) (at_ : Int) (r : Dl) (t item : Int) : Int := if kind = 1 then whoK s.done s.of item at_ 0 else if kind = 4 then whoK s.done s.of item at_ t else whoK s.done s.of item r.began 0
theorem from_see (kind : Int) (s : Kst) (at_ : Int) (r : Dl) (t item : Int) : fromK kind s at_ r t item = if inB r.wrote item = true then t else seeK kind s at_ r t item := rfl
theorem set_set {α : Type} (f : Int → α) (t : Int) (a b : α) : setF (setF f t a) t b = setF f t b := by
  funext u
  by_cases e : u = t
  · subst e; rw [setF_same, setF_same]
  · rw [setF_other _ _ e, setF_other _ _ e, setF_other _ _ e]
/-- The rules answer as the kind has it. -/
def RulesK (kind : Int) (okF : Kst → Int → Dl → Bool) (seesF : Crs → Int → Int → Int) (fallF : Crs → Int → Bool) : Prop :=
  ∀ (l : List Op3) (k : Nat) (s : Kst) (q : Crs) (t : Int), KOk l k s → CFit s q → CFit (stayStep s k t) (begQ q t) → t ∉ s.done → 1 ≤ t → t ≤ 6 →
    (∀ item, seesF (begQ q t) t item = seeK kind s k (nowK s k t) t item) ∧ fallF (begQ q t) t = !okF s t (nowK s k t)
/-- .. of this run. -/
def RulesAt (l : List Op3) (kind : Int) (okF : Kst → Int → Dl → Bool) (seesF : Crs → Int → Int → Int) (fallF : Crs → Int → Bool) : Prop :=
  ∀ (k : Nat) (s : Kst) (q : Crs) (t : Int), k ≤ l.length → s = runK kind okF l k → KOk l k s → CFit s q → CFit (stayStep s k t) (begQ q t) → t ∉ s.done → 1 ≤ t → t ≤ 6 →
    (∀ item, seesF (begQ q t) t item = seeK kind s k (nowK s k t) t item) ∧ fallF (begQ q t) t = !okF s t (nowK s k t)
theorem RulesK.at {kind : Int} {okF : Kst → Int → Dl → Bool} {seesF : Crs → Int → Int → Int} {fallF : Crs → Int → Bool} (h : RulesK kind okF seesF fallF) (l : List Op3) : RulesAt l kind okF seesF fallF := fun k s q t _ _ h1 h2 h3 h4 h5 h6 => h l k s q t h1 h2 h3 h4 h5 h6
theorem cfit_step {kind : Int} {okF : Kst → Int → Dl → Bool} {seesF : Crs → Int → Int → Int} {fallF : Crs → Int → Bool} {l : List Op3} (hR : RulesAt l kind okF seesF fallF) {k : Nat} {s : Kst} {q : Crs} (hkl : k ≤ l.length) (hsr : s = runK kind okF l k) (h : CFit s q) (hK : KOk l k s) {o : Op3} (hnd : o.1 ∉ s.done) (hfr : s.beg o.1 = false → s.of o.1 = ⟨0, 0, [], []⟩) (ho1 : 1 ≤ o.1) (ho6 : o.1 ≤ 6) :
    CFit (stepK kind okF s k o) (stepQ seesF fallF q o) := by
  obtain ⟨t, a, i⟩ := o
  simp only at hnd hfr ho1 ho6
  have h1 := h.begin hK hnd hfr
  obtain ⟨hs, hf⟩ := hR k s q t hkl hsr hK h h1 hnd ho1 ho6
  have hbt : (stayStep s k t).beg t = true := by show setF s.beg t true t = true; exact setF_same ..
  have hof : (stayStep s k t).of t = nowK s k t := by show setF s.of t _ t = _; exact setF_same ..
  unfold stepK stepQ
  simp only
  split
  · have hsrc : srcQ seesF (begQ q t) t i = fromK kind s k (nowK s k t) t i := by
      unfold srcQ
      rw [from_see, h1.wrote t, hof, hs i]
    rw [hsrc]
    unfold readStep
    have := h1.grow (t := t) { nowK s k t with seen := (nowK s k t).seen ++ [(t, i, fromK kind s k (nowK s k t) t i)] } (if kind = 4 ∧ inB (nowK s k t).wrote i = false then s.looks ++ [(t, i, fromK kind s k (nowK s k t) t i)] else s.looks) (readQ (begQ q t) (t, i, fromK kind s k (nowK s k t) t i)) rfl rfl (fun u => ?_) (fun u => ?_) hbt (by rw [hof]) (by rw [hof])
    · have e : setF (stayStep s k t).of t { nowK s k t with seen := (nowK s k t).seen ++ [(t, i, fromK kind s k (nowK s k t) t i)] } = setF s.of t { nowK s k t with seen := (nowK s k t).seen ++ [(t, i, fromK kind s k (nowK s k t) t i)] } := set_set _ _ _ _
      rw [e] at this
      exact this
    · show setF (begQ q t).read t ((begQ q t).read t ++ [(t, i, fromK kind s k (nowK s k t) t i)]) u = _
      by_cases e : u = t
      · subst e; rw [setF_same, setF_same, h1.read u, hof]
      · rw [setF_other _ _ e, setF_other _ _ e]; exact h1.read u
    · show (begQ q t).wrote u = _
      by_cases e : u = t
      · subst e; rw [setF_same, h1.wrote u, hof]
      · rw [setF_other _ _ e]; exact h1.wrote u
  · split
    · unfold writeStep
      have := h1.grow (t := t) { nowK s k t with wrote := (nowK s k t).wrote ++ [i] } s.looks (writeQ (begQ q t) t i) rfl rfl (fun u => ?_) (fun u => ?_) hbt (by rw [hof]) (by rw [hof])
      · have e : setF (stayStep s k t).of t { nowK s k t with wrote := (nowK s k t).wrote ++ [i] } = setF s.of t { nowK s k t with wrote := (nowK s k t).wrote ++ [i] } := set_set _ _ _ _
        rw [e] at this
        exact this
      · show (begQ q t).read u = _
        by_cases e : u = t
        · subst e; rw [setF_same, h1.read u, hof]
        · rw [setF_other _ _ e]; exact h1.read u
      · show setF (begQ q t).wrote t ((begQ q t).wrote t ++ [i]) u = _
        by_cases e : u = t
        · subst e; rw [setF_same, setF_same, h1.wrote u, hof]
        · rw [setF_other _ _ e, setF_other _ _ e]; exact h1.wrote u
    · split
      · rw [hf]
        cases hok : okF s t (nowK s k t) with
        | false =>
          rw [if_neg (by decide), if_pos (by decide)]
          exact h1
        | true =>
          rw [if_pos rfl, if_neg (by decide)]
          unfold doneStep
          have hoth : ∀ u, u ≠ t → setF s.of t { nowK s k t with ended := (k : Int) } u = s.of u := fun u hu => setF_other _ _ hu
          refine ⟨?_, fun u => ?_, fun u => ?_, fun u => h1.beg u, fun u n hu => ?_⟩
          · show (begQ q t).done ++ [t] = s.done ++ [t]
            rw [h1.done]; rfl
          · show (begQ q t).read u = (setF s.of t { nowK s k t with ended := (k : Int) } u).seen
            by_cases e : u = t
            · subst e; rw [setF_same, h1.read u, hof]
            · rw [hoth u e, begQ_read]; exact h.read u
          · show (begQ q t).wrote u = (setF s.of t { nowK s k t with ended := (k : Int) } u).wrote
            by_cases e : u = t
            · subst e; rw [setF_same, h1.wrote u, hof]
            · rw [hoth u e, begQ_wrote]; exact h.wrote u
          · show n ≤ (s.done ++ [t]).length ∧ (∀ i ∈ (s.done ++ [t]).take n, (setF s.of t { nowK s k t with ended := (k : Int) } i).ended < (setF s.of t { nowK s k t with ended := (k : Int) } u).began) ∧ ∀ i ∈ (s.done ++ [t]).drop n, i ≠ u → (setF s.of t { nowK s k t with ended := (k : Int) } u).began < (setF s.of t { nowK s k t with ended := (k : Int) } i).ended
            have hu1 : (begQ q t).began u = some n := hu
            have hbu : (setF s.of t { nowK s k t with ended := (k : Int) } u).began = (setF s.of t (nowK s k t) u).began := by
              by_cases e : u = t
              · subst e; rw [setF_same, setF_same]
              · rw [setF_other _ _ e, setF_other _ _ e]
            obtain ⟨a, b, c⟩ := h1.cnt u n hu1
            have a' : n ≤ s.done.length := a
            have b' : ∀ i ∈ s.done.take n, (setF s.of t (nowK s k t) i).ended < (setF s.of t (nowK s k t) u).began := b
            have c' : ∀ i ∈ s.done.drop n, i ≠ u → (setF s.of t (nowK s k t) u).began < (setF s.of t (nowK s k t) i).ended := c
            have hne : ∀ i ∈ s.done, i ≠ t := fun i hi e => hnd (e ▸ hi)
            refine ⟨by rw [List.length_append, List.length_singleton]; omega, fun i hi => ?_, fun i hi hiu => ?_⟩
            · rw [List.take_append_of_le_length a'] at hi
              have := b' i hi
              rw [setF_other _ _ (hne i (mem_takeQ hi))] at this ⊢
              rw [hbu]
              exact this
            · rw [List.drop_append_of_le_length a'] at hi
              rw [hbu]
              rcases List.mem_append.1 hi with hi | hi
              · have := c' i hi hiu
                rw [setF_other _ _ (hne i (List.mem_of_mem_drop hi))] at this ⊢
                exact this
              · have hit := List.mem_singleton.1 hi
                have hut : u ≠ t := fun e => hiu (hit.trans e.symm)
                have hub : s.beg u = true := by
                  have := h1.beg u
                  rw [hu1] at this
                  have h5 : setF s.beg t true u = true := this.symm
                  rw [setF_other _ _ hut] at h5
                  exact h5
                rw [hit, setF_same, setF_other _ _ hut]
                exact (hK.times u hub).2
      · exact h1
theorem of_fresh (kind : Int) (okF : Kst → Int → Dl → Bool) (l : List Op3) : ∀ k t, (runK kind okF l k).beg t = false → (runK kind okF l k).of t = ⟨0, 0, [], []⟩ := by
  intro k
  induction k with
  | zero => intro t _; rfl
  | succ k ih =>
    intro t ht
    have key : ∀ r : Dl, setF (runK kind okF l k).beg (opAt l k).1 true t = false → setF (runK kind okF l k).of (opAt l k).1 r t = ⟨0, 0, [], []⟩ := fun r hb => by
      have hne : t ≠ (opAt l k).1 := fun e => by rw [e, setF_same] at hb; cases hb
      rw [setF_other _ _ hne] at hb ⊢
      exact ih t hb
    have ht' : (stepK kind okF (runK kind okF l k) k (opAt l k)).beg t = false := ht
    show (stepK kind okF (runK kind okF l k) k (opAt l k)).of t = _
    unfold stepK at ht' ⊢
    split at ht'
    · rename_i h1; rw [if_pos h1]; exact key _ ht'
    · rename_i h1
      rw [if_neg h1]
      split at ht'
      · rename_i h2; rw [if_pos h2]; exact key _ ht'
      · rename_i h2
        rw [if_neg h2]
        split at ht'
        · rename_i h3
          rw [if_pos h3]
          split at ht'
          · rename_i h4; rw [if_pos h4]; exact key _ ht'
          · rename_i h4; rw [if_neg h4]; exact key _ ht'
        · rename_i h3; rw [if_neg h3]; exact key _ ht'
theorem cfit_at {kind : Int} {okF : Kst → Int → Dl → Bool} {seesF : Crs → Int → Int → Int} {fallF : Crs → Int → Bool} {l : List Op3} (hR : RulesAt l kind okF seesF fallF) (hc : (chk l).2 = 0) : ∀ k, k ≤ l.length → CFit (runK kind okF l k) (runQ seesF fallF l k) := by
  intro k
  induction k with
  | zero => intro _; exact cfit0
  | succ k ih =>
    intro hk
    have hK := run_kOk kind okF hc k (by omega)
    have h16 := isOp_range (((chk_iff l).1 hc).2.1 _ (opAt_mem (show k < l.length by omega)))
    exact cfit_step hR (by omega) rfl (ih (by omega)) hK (hK.free ((chk_iff l).1 hc).2.2 (by omega)) (of_fresh kind okF l k _) h16.1 h16.2
theorem cfit_all {kind : Int} {okF : Kst → Int → Dl → Bool} {seesF : Crs → Int → Int → Int} {fallF : Crs → Int → Bool} (hR : RulesK kind okF seesF fallF) {l : List Op3} (hc : (chk l).2 = 0) : ∀ k, k ≤ l.length → CFit (runK kind okF l k) (runQ seesF fallF l k) := cfit_at (hR.at l) hc
/-- What it comes to. -/
theorem crs_at {kind : Int} {okF : Kst → Int → Dl → Bool} {seesF : Crs → Int → Int → Int} {fallF : Crs → Int → Bool} (byN : Bool) {l : List Op3} (hR : RulesAt l kind okF seesF fallF) (hc : (chk l).2 = 0) :
    outU kind okF byN l = ((ordN byN (runQ seesF fallF l l.length).done, (ordN byN (runQ seesF fallF l l.length).done).flatMap (runQ seesF fallF l l.length).read, (List.range 6).map fun i : Nat => lastQ (runQ seesF fallF l l.length).wrote (ordN byN (runQ seesF fallF l l.length).done) ((i : Int) + 1)), 0) := by
  have h := cfit_at hR hc l.length (Nat.le_refl _)
  rw [outU_ok hc]
  have e1 : (runQ seesF fallF l l.length).read = fun t => ((runK kind okF l l.length).of t).seen := funext h.read
  have e2 : (runQ seesF fallF l l.length).wrote = fun t => ((runK kind okF l l.length).of t).wrote := funext h.wrote
  rw [e1, e2, h.done]
  rfl
theorem crs_out {kind : Int} {okF : Kst → Int → Dl → Bool} {seesF : Crs → Int → Int → Int} {fallF : Crs → Int → Bool} (hR : RulesK kind okF seesF fallF) {l : List Op3} (hc : (chk l).2 = 0) :
    outU kind okF false l = (((runQ seesF fallF l l.length).done, (runQ seesF fallF l l.length).done.flatMap (runQ seesF fallF l l.length).read, (List.range 6).map fun i : Nat => lastQ (runQ seesF fallF l l.length).wrote (runQ seesF fallF l l.length).done ((i : Int) + 1)), 0) := crs_at false (hR.at l) hc
/-- Chapter 11's rules. -/
def seesV (q : Crs) (_ item : Int) : Int := lastQ q.wrote q.done item
def fallV (q : Crs) (t : Int) : Bool := (q.done.drop ((q.began t).getD 0)).any fun o => (q.read t).any fun x => x.2.2 != t && inB (q.wrote o) x.2.1
theorem rulesV : RulesK 1 okV seesV fallV := by
  intro l k s q t hK h h1 hnd _ _
  constructor
  · intro item
    unfold seesV seeK
    rw [if_pos rfl, begQ_done, begQ_wrote, h.done, who_last (fun i hi => (hK.comm i hi).2.2.2.2.1)]
    unfold lastQ lastK
    have e2 : q.wrote = fun t => (s.of t).wrote := funext h.wrote
    rw [e2]
  · have hb : ((begQ q t).began t).isSome = true := by rw [h1.beg t]; show setF s.beg t true t = true; exact setF_same ..
    obtain ⟨n, hn⟩ := Option.isSome_iff_exists.1 hb
    obtain ⟨a, b, c⟩ := h1.cnt t n hn
    have hof : (stayStep s k t).of t = nowK s k t := by show setF s.of t _ t = _; exact setF_same ..
    have hoth : ∀ i ∈ s.done, (stayStep s k t).of i = s.of i := fun i hi => by show setF s.of t _ i = _; exact setF_other _ _ fun e => hnd (e ▸ hi)
    have a' : n ≤ s.done.length := a
    have b' : ∀ i ∈ s.done.take n, ((stayStep s k t).of i).ended < ((stayStep s k t).of t).began := b
    have c' : ∀ i ∈ s.done.drop n, i ≠ t → ((stayStep s k t).of t).began < ((stayStep s k t).of i).ended := c
    unfold fallV okV hitK
    rw [Bool.not_not, hn, begQ_done, h.done, h1.read t, hof, begQ_wrote, Bool.eq_iff_iff]
    simp only [Option.getD_some, List.any_eq_true, Bool.and_eq_true, decide_eq_true_eq]
    constructor
    · rintro ⟨i, hi, x, hx, hxt, hw⟩
      have hi' := List.mem_of_mem_drop hi
      have hc' := c' i hi fun e => hnd (e ▸ hi')
      rw [hof, hoth i hi'] at hc'
      rw [h.wrote i] at hw
      refine ⟨i, hi', x.2.1, inB_iff.1 hw, hc', ?_⟩
      rw [if_neg (by decide)]
      exact List.any_eq_true.2 ⟨x, hx, by simp only [Bool.and_eq_true, beq_self_eq_true, true_and]; exact hxt⟩
    · rintro ⟨i, hi, item, hit, hlt, hrd⟩
      rw [if_neg (by decide)] at hrd
      obtain ⟨x, hx, hxx⟩ := List.any_eq_true.1 hrd
      simp only [Bool.and_eq_true, beq_iff_eq] at hxx
      refine ⟨i, ?_, x, hx, hxx.2, ?_⟩
      · rcases List.mem_append.1 (by rw [List.take_append_drop]; exact hi : i ∈ s.done.take n ++ s.done.drop n) with hm | hm
        · have := b' i hm
          rw [hof, hoth i hi] at this
          omega
        · exact hm
      · rw [h.wrote i, hxx.1]; exact inB_iff.2 hit
end Go.Proofs.Ytccjognnehoodag

namespace Go.Proofs.Ytccjognnehoodag
open Go.RowKit

/-- Where the parts lie. -/
structure CLay where
  dv : Value
  B : Nat
  D : Nat
  W : Nat
  hr : Int → Option Value
  hw : Int → Option Value
def CLay.rv (c : CLay) (d : Int) : Value := (c.hr d).getD (.slice none 0 0)
def CLay.wv (c : CLay) (d : Int) : Value := (c.hw d).getD (.slice none 0 0)
def cpart (R : Nat) (c : CLay) (i k : Nat) : Prop :=
  match i with
  | 0 => k = R
  | 1 => c.dv.ownBlock = some k
  | 2 => k = c.B
  | 3 => k = c.D
  | 4 => k = c.W
  | d + 5 => if d < 7 then (c.rv (d : Int)).ownBlock = some k else (c.wv ((d - 7 : Nat) : Int)).ownBlock = some k
theorem cpart_r (R : Nat) (c : CLay) {d : Nat} (hd : d < 7) (k : Nat) : cpart R c (d + 5) k ↔ (c.rv (d : Int)).ownBlock = some k := by show (if d < 7 then _ else _) ↔ _; rw [if_pos hd]
theorem cpart_w (R : Nat) (c : CLay) (d : Nat) (k : Nat) : cpart R c (d + 12) k ↔ (c.wv (d : Int)).ownBlock = some k := by
  show (if d + 7 < 7 then (c.rv ((d + 7 : Nat) : Int)).ownBlock = some k else (c.wv ((d + 7 - 7 : Nat) : Int)).ownBlock = some k) ↔ _
  rw [if_neg (by omega), show d + 7 - 7 = d by omega]
def crsCells (S F : Value) (c : CLay) : Array Value := #[S, F, c.dv, .map (some c.B), .map (some c.D), .map (some c.W)]
def begM (b : Int → Option Nat) (t : Int) : Option Value := (b t).map fun n => Value.int .i64 (n : Int)
structure CrsAt (w0 w : World) (R : Nat) (S F : Value) (q : Crs) (c : CLay) : Prop where
  blk : w.heap[R]? = some (.cells (crsCells S F c) 75 (0, 0))
  done : w.ownsRow w0.heap.size 3 1 c.dv q.done.length (q.done.map (Value.int .i64))
  beg : ∃ m, MapIs w c.B (begM q.began) m
  rd : ∃ m, MapIs w c.D c.hr m
  wr : ∃ m, MapIs w c.W c.hw m
  rrow : ∀ d : Nat, d < 7 → w.ownsRow w0.heap.size 60 3 (c.rv (d : Int)) (q.read (d : Int)).length (flat (q.read (d : Int)))
  wrow : ∀ d : Nat, d < 7 → w.ownsRow w0.heap.size 3 1 (c.wv (d : Int)) (q.wrote (d : Int)).length ((q.wrote (d : Int)).map (Value.int .i64))
  apart : ∀ i j k, i < 19 → j < 19 → i ≠ j → cpart R c i k → cpart R c j k → False
  news : ∀ i k, i < 19 → cpart R c i k → w0.heap.size ≤ k
  old : Below w0.heap.size w0 w
def cofs (R : Nat) (c : CLay) (J : Nat → Prop) (k : Nat) : Prop := ∃ i, i < 19 ∧ J i ∧ cpart R c i k
section
variable {w0 w w1 : World} {R : Nat} {S F : Value} {q q1 : Crs} {c c1 : CLay} {G J : Nat → Prop}
theorem CrsAt.lt (h : CrsAt w0 w R S F q c) : R < w.heap.size := (Array.getElem?_eq_some_iff.1 h.blk).1
theorem CrsAt.part_lt (h : CrsAt w0 w R S F q c) : ∀ i k, i < 19 → cpart R c i k → k < w.heap.size := by
  intro i k hi hk
  match i, hk with
  | 0, hk => rw [show k = R from hk]; exact h.lt
  | 1, hk => exact (h.done.lt k hk).2
  | 2, hk => rw [show k = c.B from hk]; exact h.beg.elim fun _ h => h.lt
  | 3, hk => rw [show k = c.D from hk]; exact h.rd.elim fun _ h => h.lt
  | 4, hk => rw [show k = c.W from hk]; exact h.wr.elim fun _ h => h.lt
  | d + 5, hk =>
    by_cases hd : d < 7
    · exact ((h.rrow d hd).lt k ((cpart_r R c hd k).1 hk)).2
    · obtain ⟨e, rfl⟩ : ∃ e, d = e + 7 := ⟨d - 7, by omega⟩
      exact ((h.wrow e (by omega)).lt k ((cpart_w R c e k).1 hk)).2
theorem CrsAt.keep (h : CrsAt w0 w R S F q c) {i : Nat} (hi : i < 19) (hj : ¬ J i) : ∀ k, cpart R c i k → ¬ cofs R c J k := fun k hk ⟨j, hj1, hj2, hj3⟩ => h.apart i j k hi hj1 (fun e => hj (e ▸ hj2)) hk hj3
theorem CrsAt.blkT (h : CrsAt w0 w R S F q c) (ht : Turns G w w1) (hF : ∀ k, cpart R c 0 k → ¬ G k) : w1.heap[R]? = some (.cells (crsCells S F c) 75 (0, 0)) := (ht.block R h.lt (hF R rfl)).trans h.blk
theorem CrsAt.doneT (h : CrsAt w0 w R S F q c) (ht : Turns G w w1) (hF : ∀ k, cpart R c 1 k → ¬ G k) : w1.ownsRow w0.heap.size 3 1 c.dv q.done.length (q.done.map (Value.int .i64)) := ht.own h.done fun k hk => hF k hk
theorem CrsAt.begT (h : CrsAt w0 w R S F q c) (ht : Turns G w w1) (hF : ∀ k, cpart R c 2 k → ¬ G k) : ∃ m, MapIs w1 c.B (begM q.began) m := h.beg.elim fun m h1 => ⟨m, h1.turn ht (hF _ rfl)⟩
theorem CrsAt.rdT (h : CrsAt w0 w R S F q c) (ht : Turns G w w1) (hF : ∀ k, cpart R c 3 k → ¬ G k) : ∃ m, MapIs w1 c.D c.hr m := h.rd.elim fun m h1 => ⟨m, h1.turn ht (hF _ rfl)⟩
theorem CrsAt.wrT (h : CrsAt w0 w R S F q c) (ht : Turns G w w1) (hF : ∀ k, cpart R c 4 k → ¬ G k) : ∃ m, MapIs w1 c.W c.hw m := h.wr.elim fun m h1 => ⟨m, h1.turn ht (hF _ rfl)⟩
theorem CrsAt.rrowT (h : CrsAt w0 w R S F q c) (ht : Turns G w w1) {d : Nat} (hd : d < 7) (hF : ∀ k, cpart R c (d + 5) k → ¬ G k) : w1.ownsRow w0.heap.size 60 3 (c.rv (d : Int)) (q.read (d : Int)).length (flat (q.read (d : Int))) := ht.own (h.rrow d hd) fun k hk => hF k ((cpart_r R c hd k).2 hk)
theorem CrsAt.wrowT (h : CrsAt w0 w R S F q c) (ht : Turns G w w1) {d : Nat} (hd : d < 7) (hF : ∀ k, cpart R c (d + 12) k → ¬ G k) : w1.ownsRow w0.heap.size 3 1 (c.wv (d : Int)) (q.wrote (d : Int)).length ((q.wrote (d : Int)).map (Value.int .i64)) := ht.own (h.wrow d hd) fun k hk => hF k ((cpart_w R c d k).2 hk)
/-- Some parts have turned, one of them lies otherwise. -/
theorem CrsAt.change (h : CrsAt w0 w R S F q c) (m : Nat) (ht : Turns (cofs R c J) w w1) (hsame : ∀ i, i < 19 → i ≠ m → ∀ k, cpart R c1 i k → cpart R c i k) (hm : ∀ k, cpart R c1 m k → cpart R c m k ∨ w.heap.size ≤ k)
    (blk : w1.heap[R]? = some (.cells (crsCells S F c1) 75 (0, 0))) (done : w1.ownsRow w0.heap.size 3 1 c1.dv q1.done.length (q1.done.map (Value.int .i64))) (beg : ∃ m, MapIs w1 c1.B (begM q1.began) m) (rd : ∃ m, MapIs w1 c1.D c1.hr m) (wr : ∃ m, MapIs w1 c1.W c1.hw m)
    (rrow : ∀ d : Nat, d < 7 → w1.ownsRow w0.heap.size 60 3 (c1.rv (d : Int)) (q1.read (d : Int)).length (flat (q1.read (d : Int)))) (wrow : ∀ d : Nat, d < 7 → w1.ownsRow w0.heap.size 3 1 (c1.wv (d : Int)) (q1.wrote (d : Int)).length ((q1.wrote (d : Int)).map (Value.int .i64))) : CrsAt w0 w1 R S F q1 c1 := by
  have hp : ∀ i k, i < 19 → cpart R c1 i k → cpart R c i k ∨ (i = m ∧ w.heap.size ≤ k) := fun i k hi hk => by
    by_cases e : i = m
    · subst e
      rcases hm k hk with h1 | h1
      · exact .inl h1
      · exact .inr ⟨rfl, h1⟩
    · exact .inl (hsame i hi e k hk)
  refine ⟨blk, done, beg, rd, wr, rrow, wrow, fun i j k hi hj hij h1 h2 => ?_, fun i k hi hk => ?_, h.old.trans (ht.below h.old.size fun k hk hf => ?_)⟩
  · rcases hp i k hi h1 with h3 | ⟨h3, h4⟩
    · rcases hp j k hj h2 with h5 | ⟨h5, h6⟩
      · exact h.apart i j k hi hj hij h3 h5
      · have := h.part_lt i k hi h3; omega
    · rcases hp j k hj h2 with h5 | ⟨h5, h6⟩
      · have := h.part_lt j k hj h5; omega
      · exact hij (h3.trans h5.symm)
  · rcases hp i k hi hk with h3 | ⟨_, h3⟩
    · exact h.news i k hi h3
    · exact Nat.le_trans h.old.size h3
  · obtain ⟨i, hi, _, hk2⟩ := hf
    have := h.news i k hi hk2
    omega
theorem CrsAt.below (h : CrsAt w0 w R S F q c) (hb : Below w.heap.size w w1) : CrsAt w0 w1 R S F q c :=
  have ht : Turns (cofs R c fun _ => False) w w1 := Turns.of_below hb
  h.change (c1 := c) 0 ht (fun _ _ _ _ hk => hk) (fun _ hk => .inl hk) (h.blkT ht (h.keep (by omega) (fun hf => hf))) (h.doneT ht (h.keep (by omega) (fun hf => hf))) (h.begT ht (h.keep (by omega) (fun hf => hf))) (h.rdT ht (h.keep (by omega) (fun hf => hf))) (h.wrT ht (h.keep (by omega) (fun hf => hf)))
    (fun d hd => h.rrowT ht hd (h.keep (by omega) (fun hf => hf))) fun d hd => h.wrowT ht hd (h.keep (by omega) (fun hf => hf))
theorem CrsAt.drew (h : CrsAt w0 w R S F q c) : CrsAt w0 w.drew R S F q c := h.below (Below.refl _ w).drew
theorem CrsAt.alloc (h : CrsAt w0 w R S F q c) (o : Obj) : CrsAt w0 (w.alloc o) R S F q c := h.below ((Below.refl _ w).alloc (Nat.le_refl _) o)
end
section
variable {w0 w w1 : World} {R : Nat} {S F : Value} {q : Crs} {c : CLay}
theorem CrsAt.cell (h : CrsAt w0 w R S F q c) (k : Nat) : w.cell? ⟨R, k, none⟩ = (crsCells S F c)[k]? := by rw [cell_of_row w R _ _ _ _ h.blk]
theorem CrsAt.c0 (h : CrsAt w0 w R S F q c) : w.cell? ⟨R, 0, none⟩ = some S := h.cell 0
theorem CrsAt.c1 (h : CrsAt w0 w R S F q c) : w.cell? ⟨R, 1, none⟩ = some F := h.cell 1
theorem CrsAt.c2 (h : CrsAt w0 w R S F q c) : w.cell? ⟨R, 2, none⟩ = some c.dv := h.cell 2
theorem CrsAt.c3 (h : CrsAt w0 w R S F q c) : w.cell? ⟨R, 3, none⟩ = some (.map (some c.B)) := h.cell 3
theorem CrsAt.c4 (h : CrsAt w0 w R S F q c) : w.cell? ⟨R, 4, none⟩ = some (.map (some c.D)) := h.cell 4
theorem CrsAt.c5 (h : CrsAt w0 w R S F q c) : w.cell? ⟨R, 5, none⟩ = some (.map (some c.W)) := h.cell 5
theorem CrsAt.thaw (h : CrsAt w0 w R S F q c) (k : Nat) : w.frozen? ⟨R, k, none⟩ = false := by simp [World.frozen?, h.blk]
/-- A deal has begun. -/
theorem CrsAt.setBeg {m : Nat} {b : Int → Option Nat} (h : CrsAt w0 w R S F q c) (hp : MapIs w1 c.B (begM b) m) (ht : Turns (fun k => k = c.B) w w1) : CrsAt w0 w1 R S F { q with began := b } c := by
  have ht2 : Turns (cofs R c fun j => j = 2) w w1 := ht.mono fun _ _ hk => ⟨2, by omega, rfl, hk⟩
  exact h.change (c1 := c) 2 ht2 (fun _ _ _ _ hk => hk) (fun _ hk => .inl hk) (h.blkT ht2 (h.keep (by omega) (by omega))) (h.doneT ht2 (h.keep (by omega) (by omega))) ⟨m, hp⟩ (h.rdT ht2 (h.keep (by omega) (by omega))) (h.wrT ht2 (h.keep (by omega) (by omega)))
    (fun d hd => h.rrowT ht2 hd (h.keep (by omega) (by omega))) fun d hd => h.wrowT ht2 hd (h.keep (by omega) (by omega))
/-- One more is done. -/
theorem CrsAt.pushDone {v : Value} {t : Int} (h : CrsAt w0 w R S F q c) (ht : Turns (fun k => c.dv.ownBlock = some k) w w1) (hv : w1.ownsRow w0.heap.size 3 1 v (q.done.length + 1) (q.done.map (Value.int .i64) ++ [.int .i64 t])) (hap : ∀ g, v.ownBlock = some g → c.dv.ownBlock = some g ∨ w.heap.size ≤ g) :
    w1.cell? ⟨R, 2, none⟩ = some c.dv ∧ w1.frozen? ⟨R, 2, none⟩ = false ∧ CrsAt w0 (w1.setCell ⟨R, 2, none⟩ v) R S F (doneQ q t) { c with dv := v } := by
  have hn : ¬ c.dv.ownBlock = some R := fun e => h.apart 0 1 R (by omega) (by omega) (by decide) rfl e
  have hb1 : w1.heap[R]? = some (.cells (crsCells S F c) 75 (0, 0)) := (ht.block R h.lt hn).trans h.blk
  have ht2 : Turns (cofs R c fun j => j = 0 ∨ j = 1) w (w1.setCell ⟨R, 2, none⟩ v) := (ht.mono fun k _ hk => ⟨1, by omega, .inr rfl, hk⟩).setCell (.inl ⟨0, by omega, .inl rfl, rfl⟩) v
  have hR : ¬ v.ownBlock = some R := fun e => by
    rcases hap R e with h1 | h1
    · exact hn h1
    · have := h.lt; omega
  have hset : Turns (fun k => k = R) w1 (w1.setCell ⟨R, 2, none⟩ v) := by
    refine Turns.setCell (Turns.refl _ w1) ?_ _
    exact .inl rfl
  refine ⟨by rw [cell_of_row w1 R _ _ _ _ hb1]; rfl, by simp [World.frozen?, hb1], h.change (c1 := { c with dv := v }) 1 ht2 (fun i hi hne k hk => ?_) (fun k hk => hap k hk) ?_ ?_ (h.begT ht2 (h.keep (by omega) (by omega))) (h.rdT ht2 (h.keep (by omega) (by omega))) (h.wrT ht2 (h.keep (by omega) (by omega)))
    (fun d hd => h.rrowT ht2 hd (h.keep (by omega) (by omega))) fun d hd => h.wrowT ht2 hd (h.keep (by omega) (by omega))⟩
  · match i, hne, hk with
    | 0, _, hk => exact hk
    | 1, hne, _ => exact absurd rfl hne
    | 2, _, hk => exact hk
    | 3, _, hk => exact hk
    | 4, _, hk => exact hk
    | d + 5, _, hk => exact hk
  · rw [block_set hb1]; rfl
  · show World.ownsRow _ _ _ _ v (q.done ++ [t]).length ((q.done ++ [t]).map _)
    rw [List.length_append, List.map_append]
    exact hset.own hv fun g hg e => hR (e ▸ hg)
theorem rv_same (c : CLay) (d : Int) (x : Option Value) : ({ c with hr := setF c.hr d x } : CLay).rv d = x.getD (.slice none 0 0) := by show (setF c.hr d x d).getD _ = _; rw [setF_same]
theorem rv_other (c : CLay) {d e : Int} (x : Option Value) (hne : e ≠ d) : ({ c with hr := setF c.hr d x } : CLay).rv e = c.rv e := by show (setF c.hr d x e).getD _ = _; rw [setF_other _ _ hne]; rfl
theorem wv_same (c : CLay) (d : Int) (x : Option Value) : ({ c with hw := setF c.hw d x } : CLay).wv d = x.getD (.slice none 0 0) := by show (setF c.hw d x d).getD _ = _; rw [setF_same]
theorem wv_other (c : CLay) {d e : Int} (x : Option Value) (hne : e ≠ d) : ({ c with hw := setF c.hw d x } : CLay).wv e = c.wv e := by show (setF c.hw d x e).getD _ = _; rw [setF_other _ _ hne]; rfl
/-- A deal read something more. w2: its row has turned; w1: the map has. -/
theorem CrsAt.pushRead {w2 : World} {m d : Nat} {v : Value} {x : Op3} (hd : d < 7) (hx : x.1 = (d : Int)) (h : CrsAt w0 w R S F q c) (ht0 : Turns (fun k => (c.rv (d : Int)).ownBlock = some k) w w2) (hp : MapIs w1 c.D (setF c.hr (d : Int) (some v)) m) (ht : Turns (fun k => k = c.D) w2 w1)
    (hv : w2.ownsRow w0.heap.size 60 3 v ((q.read (d : Int)).length + 1) (flat (q.read (d : Int)) ++ flat [x])) (hap : ∀ k, v.ownBlock = some k → (c.rv (d : Int)).ownBlock = some k ∨ w.heap.size ≤ k) : CrsAt w0 w1 R S F (readQ q x) { c with hr := setF c.hr (d : Int) (some v) } := by
  have ht2 : Turns (cofs R c fun j => j = 3 ∨ j = d + 5) w w1 := (ht0.mono fun k _ hk => ⟨d + 5, by omega, .inr rfl, (cpart_r R c hd k).2 hk⟩).trans ht fun k _ hk => ⟨3, by omega, .inl rfl, hk⟩
  have hB : ∀ k, v.ownBlock = some k → k ≠ c.D := fun k hk e => by
    rcases hap k hk with h1 | h1
    · exact h.apart (d + 5) 3 k (by omega) (by omega) (by omega) ((cpart_r R c hd k).2 h1) e
    · have := h.rd.elim fun _ h => h.lt
      omega
  refine h.change (c1 := { c with hr := setF c.hr (d : Int) (some v) }) (d + 5) ht2 (fun i hi hne k hk => ?_) (fun k hk => ?_) (h.blkT ht2 (h.keep (by omega) (by omega))) (h.doneT ht2 (h.keep (by omega) (by omega))) (h.begT ht2 (h.keep (by omega) (by omega))) ⟨m, hp⟩ (h.wrT ht2 (h.keep (by omega) (by omega)))
    (fun e he => ?_) fun d hd => h.wrowT ht2 hd (h.keep (by omega) (by omega))
  · match i, hne, hk with
    | 0, _, hk => exact hk
    | 1, _, hk => exact hk
    | 2, _, hk => exact hk
    | 3, _, hk => exact hk
    | 4, _, hk => exact hk
    | e + 5, hne, hk =>
      by_cases he : e < 7
      · have hk' := (cpart_r R _ he k).1 hk
        rw [rv_other c _ (by omega)] at hk'
        exact (cpart_r R c he k).2 hk'
      · obtain ⟨g, rfl⟩ : ∃ g, e = g + 7 := ⟨e - 7, by omega⟩
        have hk' := (cpart_w R _ g k).1 hk; exact (cpart_w R c g k).2 hk'
  · have hk' := (cpart_r R _ hd k).1 hk
    rw [rv_same] at hk'
    rcases hap k hk' with h1 | h1
    · exact .inl ((cpart_r R c hd k).2 h1)
    · exact .inr h1
  · show World.ownsRow w1 _ _ 3 _ (setF q.read x.1 (q.read x.1 ++ [x]) (e : Int)).length (flat (setF q.read x.1 (q.read x.1 ++ [x]) (e : Int)))
    rw [hx]
    by_cases e1 : e = d
    · subst e1
      rw [rv_same, setF_same, List.length_append, flat_append]
      exact ht.own hv fun k hk e2 => hB k hk e2
    · rw [rv_other c _ (by omega), setF_other _ _ (by omega)]
      exact h.rrowT ht2 he (h.keep (by omega) (by omega))
/-- A deal wrote something more. -/
theorem CrsAt.pushWrote {w2 : World} {m d : Nat} {v : Value} {x : Int} (hd : d < 7) (h : CrsAt w0 w R S F q c) (ht0 : Turns (fun k => (c.wv (d : Int)).ownBlock = some k) w w2) (hp : MapIs w1 c.W (setF c.hw (d : Int) (some v)) m) (ht : Turns (fun k => k = c.W) w2 w1)
    (hv : w2.ownsRow w0.heap.size 3 1 v ((q.wrote (d : Int)).length + 1) ((q.wrote (d : Int)).map (Value.int .i64) ++ [.int .i64 x])) (hap : ∀ k, v.ownBlock = some k → (c.wv (d : Int)).ownBlock = some k ∨ w.heap.size ≤ k) : CrsAt w0 w1 R S F (writeQ q (d : Int) x) { c with hw := setF c.hw (d : Int) (some v) } := by
  have ht2 : Turns (cofs R c fun j => j = 4 ∨ j = d + 12) w w1 := (ht0.mono fun k _ hk => ⟨d + 12, by omega, .inr rfl, (cpart_w R c d k).2 hk⟩).trans ht fun k _ hk => ⟨4, by omega, .inl rfl, hk⟩
  have hB : ∀ k, v.ownBlock = some k → k ≠ c.W := fun k hk e => by
    rcases hap k hk with h1 | h1
    · exact h.apart (d + 12) 4 k (by omega) (by omega) (by omega) ((cpart_w R c d k).2 h1) e
    · have := h.wr.elim fun _ h => h.lt
      omega
  refine h.change (c1 := { c with hw := setF c.hw (d : Int) (some v) }) (d + 12) ht2 (fun i hi hne k hk => ?_) (fun k hk => ?_) (h.blkT ht2 (h.keep (by omega) (by omega))) (h.doneT ht2 (h.keep (by omega) (by omega))) (h.begT ht2 (h.keep (by omega) (by omega))) (h.rdT ht2 (h.keep (by omega) (by omega))) ⟨m, hp⟩
    (fun d hd => h.rrowT ht2 hd (h.keep (by omega) (by omega))) fun e he => ?_
  · match i, hne, hk with
    | 0, _, hk => exact hk
    | 1, _, hk => exact hk
    | 2, _, hk => exact hk
    | 3, _, hk => exact hk
    | 4, _, hk => exact hk
    | e + 5, hne, hk =>
      by_cases he : e < 7
      · have hk' := (cpart_r R _ he k).1 hk; exact (cpart_r R c he k).2 hk'
      · obtain ⟨g, rfl⟩ : ∃ g, e = g + 7 := ⟨e - 7, by omega⟩
        have hk' := (cpart_w R _ g k).1 hk
        rw [wv_other c _ (by omega)] at hk'
        exact (cpart_w R c g k).2 hk'
  · have hk' := (cpart_w R _ d k).1 hk
    rw [wv_same] at hk'
    rcases hap k hk' with h1 | h1
    · exact .inl ((cpart_w R c d k).2 h1)
    · exact .inr h1
  · show World.ownsRow w1 _ _ 1 _ (setF q.wrote (d : Int) (q.wrote (d : Int) ++ [x]) (e : Int)).length ((setF q.wrote (d : Int) (q.wrote (d : Int) ++ [x]) (e : Int)).map _)
    by_cases e1 : e = d
    · subst e1
      rw [wv_same, setF_same, List.length_append, List.map_append]
      exact ht.own hv fun k hk e2 => hB k hk e2
    · rw [wv_other c _ (by omega), setF_other _ _ (by omega)]
      exact h.wrowT ht2 he (h.keep (by omega) (by omega))
end
/-- As it is made. -/
theorem crs_made (w0 w : World) (hb : Below w0.heap.size w0 w) (S F : Value) : CrsAt w0 ((((w.alloc (.map #[] 0)).alloc (.map #[] 0)).alloc (.map #[] 0)).alloc (.cells #[S, F, .slice none 0 0, .map (some w.heap.size), .map (some (w.heap.size + 1)), .map (some (w.heap.size + 2))] 75)) (w.heap.size + 3) S F crs0 ⟨.slice none 0 0, w.heap.size, w.heap.size + 1, w.heap.size + 2, fun _ => none, fun _ => none⟩ := by
  obtain ⟨W1, hW1⟩ : ∃ W, W = w.alloc (.map #[] 0) := ⟨_, rfl⟩
  obtain ⟨W2, hW2⟩ : ∃ W, W = W1.alloc (.map #[] 0) := ⟨_, rfl⟩
  obtain ⟨W3, hW3⟩ : ∃ W, W = W2.alloc (.map #[] 0) := ⟨_, rfl⟩
  obtain ⟨W4, hW4⟩ : ∃ W, W = W3.alloc (.cells #[S, F, .slice none 0 0, .map (some w.heap.size), .map (some (w.heap.size + 1)), .map (some (w.heap.size + 2))] 75) := ⟨_, rfl⟩
  have s1 : W1.heap.size = w.heap.size + 1 := by rw [hW1]; simp
  have s2 : W2.heap.size = w.heap.size + 2 := by rw [hW2]; simp [s1]
  have s3 : W3.heap.size = w.heap.size + 3 := by rw [hW3]; simp [s2]
  have t1 : Turns (fun _ => False) w W1 := by rw [hW1]; exact (Turns.refl _ w).alloc _
  have t2 : Turns (fun _ => False) W1 W2 := by rw [hW2]; exact (Turns.refl _ W1).alloc _
  have t3 : Turns (fun _ => False) W2 W3 := by rw [hW3]; exact (Turns.refl _ W2).alloc _
  have t4 : Turns (fun _ => False) W3 W4 := by rw [hW4]; exact (Turns.refl _ W3).alloc _
  have m1 : MapIs W1 w.heap.size (fun _ => none) 0 := by rw [hW1]; exact mapIs_made w
  have m2 : MapIs W2 (w.heap.size + 1) (fun _ => none) 0 := by rw [hW2, ← s1]; exact mapIs_made W1
  have m3 : MapIs W3 (w.heap.size + 2) (fun _ => none) 0 := by rw [hW3, ← s2]; exact mapIs_made W2
  have hs := hb.size
  rw [← hW1, ← hW2, ← hW3, ← hW4]
  have t14 : Turns (fun _ => False) w W4 := ((t1.trans t2 fun _ _ hf => hf).trans t3 fun _ _ hf => hf).trans t4 fun _ _ hf => hf
  refine ⟨?_, World.ownsRow_nil _ _ _ _, ⟨0, ((m1.turn t2 (fun hf => hf)).turn t3 (fun hf => hf)).turn t4 (fun hf => hf)⟩, ⟨0, (m2.turn t3 (fun hf => hf)).turn t4 (fun hf => hf)⟩, ⟨0, m3.turn t4 (fun hf => hf)⟩, fun d _ => World.ownsRow_nil _ _ _ _, fun d _ => World.ownsRow_nil _ _ _ _, fun i j k hi hj hij h1 h2 => ?_, fun i k hi hk => ?_, hb.trans (t14.below hs fun _ _ hf => hf)⟩
  · rw [hW4, ← s3]
    exact heap_alloc_new W3 _
  · have key : ∀ i k, i < 19 → cpart (w.heap.size + 3) ⟨.slice none 0 0, w.heap.size, w.heap.size + 1, w.heap.size + 2, fun _ => none, fun _ => none⟩ i k → (i = 0 ∧ k = w.heap.size + 3) ∨ (i = 2 ∧ k = w.heap.size) ∨ (i = 3 ∧ k = w.heap.size + 1) ∨ (i = 4 ∧ k = w.heap.size + 2) := fun i k hi hk => by
      match i, hk with
      | 0, hk => exact .inl ⟨rfl, hk⟩
      | 1, hk => exact absurd hk (by simp [cpart, Value.ownBlock])
      | 2, hk => exact .inr (.inl ⟨rfl, hk⟩)
      | 3, hk => exact .inr (.inr (.inl ⟨rfl, hk⟩))
      | 4, hk => exact .inr (.inr (.inr ⟨rfl, hk⟩))
      | d + 5, hk => exact absurd hk (by simp [cpart, CLay.rv, CLay.wv, Value.ownBlock])
    have a := key i k hi h1
    have b := key j k hj h2
    omega
  · match i, hk with
    | 0, hk => rw [show k = _ from hk]; omega
    | 1, hk => exact absurd hk (by simp [cpart, Value.ownBlock])
    | 2, hk => rw [show k = _ from hk]; exact hs
    | 3, hk => rw [show k = _ from hk]; show w0.heap.size ≤ w.heap.size + 1; omega
    | 4, hk => rw [show k = _ from hk]; show w0.heap.size ≤ w.heap.size + 2; omega
    | d + 5, hk => exact absurd hk (by simp [cpart, CLay.rv, CLay.wv, Value.ownBlock])
end Go.Proofs.Ytccjognnehoodag
