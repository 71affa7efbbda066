/-
  PROVED HERE: plain facts, with no word of the program: a run as package course goes over it (who is done; how many were when a deal began; what each read and wrote), by any two rules; if the rules answer as a kind of run (chapters 11 to 13) has it, it comes to the same.
  Conditions: none.
  PROVED HERE: a map from whole numbers to whatever it holds, as package strict keeps three of them, said key by key: what is looked up, laid in, struck out, counted, met one by one.
  Conditions: its keys are 1 to 6.
-/
import Derived.Test.YtccjognnehoodafDoorMgav
import Derived.Test.YtccjognnehoodafDoorMgay
import Derived.Test.YtccjognnehoodafDoorMgao
import Derived.Maps.OwnSet
import Derived.Maps.RangeWalk
namespace Go.Proofs.YtccjognnehoodafDoor

structure Crs where
  done : List Int
  began : Int → Option Nat
  read : Int → List Op3
  wrote : Int → List Int
def crs0 : Crs := ⟨[], fun _ => none, fun _ => [], fun _ => []⟩
def lastQ (wrote : Int → List Int) (done : List Int) (item : Int) : Int := done.foldl (fun f t => if inB (wrote t) item = true then t else f) 0
theorem lastQ_snoc (wrote : Int → List Int) (done : List Int) (t item : Int) : lastQ wrote (done ++ [t]) item = if inB (wrote t) item = true then t else lastQ wrote done item := by
  unfold lastQ; rw [List.foldl_append]; rfl
def begQ (q : Crs) (t : Int) : Crs := if (q.began t).isSome = true then q else { q with began := setF q.began t (some q.done.length) }
theorem begQ_done (q : Crs) (t : Int) : (begQ q t).done = q.done := by unfold begQ; split <;> rfl
theorem begQ_read (q : Crs) (t : Int) : (begQ q t).read = q.read := by unfold begQ; split <;> rfl
theorem begQ_wrote (q : Crs) (t : Int) : (begQ q t).wrote = q.wrote := by unfold begQ; split <;> rfl
def srcQ (seesF : Crs → Int → Int → Int) (q : Crs) (t item : Int) : Int := if inB (q.wrote t) item = true then t else seesF q t item
def readQ (q : Crs) (x : Op3) : Crs := { q with read := setF q.read x.1 (q.read x.1 ++ [x]) }
def writeQ (q : Crs) (t item : Int) : Crs := { q with wrote := setF q.wrote t (q.wrote t ++ [item]) }
def doneQ (q : Crs) (t : Int) : Crs := { q with done := q.done ++ [t] }
/-- An op comes. -/
def stepQ (seesF : Crs → Int → Int → Int) (fallF : Crs → Int → Bool) (q : Crs) (o : Op3) : Crs :=
  if o.2.1 = 1 then readQ (begQ q o.1) (o.1, o.2.2, srcQ seesF (begQ q o.1) o.1 o.2.2)
  else if o.2.1 = 2 then writeQ (begQ q o.1) o.1 o.2.2
  else if o.2.1 = 3 then (if fallF (begQ q o.1) o.1 = true then begQ q o.1 else doneQ (begQ q o.1) o.1)
  else begQ q o.1
def runQ (seesF : Crs → Int → Int → Int) (fallF : Crs → Int → Bool) (l : List Op3) : Nat → Crs
  | 0 => crs0
  | k + 1 => stepQ seesF fallF (runQ seesF fallF l k) (opAt l k)
/-- How great it can be. -/
structure CrsOk (m : Nat) (q : Crs) : Prop where
  lenD : q.done.length ≤ m
  lenR : ∀ t, (q.read t).length ≤ m
  lenW : ∀ t, (q.wrote t).length ≤ m
  six : ∀ t ∈ q.done, 1 ≤ t ∧ t ≤ 6
  cnt : ∀ t n, q.began t = some n → n ≤ q.done.length
  begs : ∀ t ∈ q.done, (q.began t).isSome = true
theorem crsOk0 : CrsOk 0 crs0 := ⟨Nat.le_refl _, fun _ => Nat.le_refl _, fun _ => Nat.le_refl _, fun _ h => (by cases h), fun _ _ h => (by cases h), fun _ h => (by cases h)⟩
theorem begQ_some (q : Crs) (t : Int) : ((begQ q t).began t).isSome = true := by
  unfold begQ
  split
  · assumption
  · show (setF q.began t (some q.done.length) t).isSome = true
    rw [setF_same]; rfl
section
variable {m : Nat} {q : Crs}
theorem CrsOk.more (h : CrsOk m q) : CrsOk (m + 1) q := ⟨by have := h.lenD; omega, fun t => by have := h.lenR t; omega, fun t => by have := h.lenW t; omega, h.six, h.cnt, h.begs⟩
theorem CrsOk.beg (h : CrsOk m q) (t : Int) : CrsOk m (begQ q t) := by
  refine ⟨by rw [begQ_done]; exact h.lenD, by rw [begQ_read]; exact h.lenR, by rw [begQ_wrote]; exact h.lenW, by rw [begQ_done]; exact h.six, fun u n hu => ?_, fun u hu => ?_⟩
  · rw [begQ_done]
    unfold begQ at hu
    split at hu
    · exact h.cnt u n hu
    · have hu' : setF q.began t (some q.done.length) u = some n := hu
      by_cases e : u = t
      · subst e; rw [setF_same] at hu'; cases hu'; exact Nat.le_refl _
      · rw [setF_other _ _ e] at hu'; exact h.cnt u n hu'
  · rw [begQ_done] at hu
    by_cases e : u = t
    · subst e; exact begQ_some q u
    · unfold begQ
      split
      · exact h.begs u hu
      · show (setF q.began t (some q.done.length) u).isSome = true
        rw [setF_other _ _ e]; exact h.begs u hu
theorem CrsOk.read (h : CrsOk m q) (x : Op3) : CrsOk (m + 1) (readQ q x) := by
  refine ⟨by have := h.lenD; show q.done.length ≤ _; omega, fun t => ?_, fun t => by have := h.lenW t; show (q.wrote t).length ≤ _; omega, h.six, h.cnt, h.begs⟩
  show (setF q.read x.1 (q.read x.1 ++ [x]) t).length ≤ _
  have h1 := h.lenR t
  by_cases e : t = x.1
  · subst e; rw [setF_same, List.length_append, List.length_singleton]; omega
  · rw [setF_other _ _ e]; omega
theorem CrsOk.write (h : CrsOk m q) (t item : Int) : CrsOk (m + 1) (writeQ q t item) := by
  refine ⟨by have := h.lenD; show q.done.length ≤ _; omega, fun t => by have := h.lenR t; show (q.read t).length ≤ _; omega, fun u => ?_, h.six, h.cnt, h.begs⟩
  show (setF q.wrote t (q.wrote t ++ [item]) u).length ≤ _
  have h1 := h.lenW u
  by_cases e : u = t
  · subst e; rw [setF_same, List.length_append, List.length_singleton]; omega
  · rw [setF_other _ _ e]; omega
theorem CrsOk.end_ (h : CrsOk m q) {t : Int} (h1 : 1 ≤ t) (h6 : t ≤ 6) (hbt : (q.began t).isSome = true) : CrsOk (m + 1) (doneQ q t) := by
  refine ⟨by have := h.lenD; show (q.done ++ [t]).length ≤ _; rw [List.length_append, List.length_singleton]; omega, fun t => by have := h.lenR t; show (q.read t).length ≤ _; omega, fun t => by have := h.lenW t; show (q.wrote t).length ≤ _; omega, fun u hu => ?_, fun u n hu => ?_, fun u hu => ?_⟩
  · rcases List.mem_append.1 hu with hu | hu
    · exact h.six u hu
    · rw [List.mem_singleton.1 hu]; exact ⟨h1, h6⟩
  · have := h.cnt u n hu
    show n ≤ (q.done ++ [t]).length
    rw [List.length_append, List.length_singleton]; omega
  · rcases List.mem_append.1 hu with hu | hu
    · exact h.begs u hu
    · rw [List.mem_singleton.1 hu]; exact hbt
theorem CrsOk.step (seesF : Crs → Int → Int → Int) (fallF : Crs → Int → Bool) (h : CrsOk m q) {o : Op3} (h1 : 1 ≤ o.1) (h6 : o.1 ≤ 6) : CrsOk (m + 1) (stepQ seesF fallF q o) := by
  unfold stepQ
  split
  · exact (h.beg _).read _
  · split
    · exact (h.beg _).write _ _
    · split
      · split
        · exact (h.beg _).more
        · exact (h.beg _).end_ h1 h6 (begQ_some _ _)
      · exact (h.beg _).more
end
theorem crsOk_all (seesF : Crs → Int → Int → Int) (fallF : Crs → Int → Bool) {l : List Op3} (hop : ∀ o ∈ l, isOpB o = true) : ∀ k, k ≤ l.length → CrsOk k (runQ seesF fallF l k) := by
  intro k
  induction k with
  | zero => intro _; exact crsOk0
  | succ k ih =>
    intro hk
    have hm : opAt l k ∈ l := by rw [opAt_at (by omega)]; exact List.getElem_mem _
    have h1 := isOp_range (hop _ hm)
    exact (ih (by omega)).step seesF fallF h1.1 h1.2
/-- It stands as the kind's run does. -/
structure CFit (s : Kst) (q : Crs) : Prop where
  done : q.done = s.done
  read : ∀ t, q.read t = (s.of t).seen
  wrote : ∀ t, q.wrote t = (s.of t).wrote
  beg : ∀ t, (q.began t).isSome = s.beg t
  cnt : ∀ t n, q.began t = some n → n ≤ s.done.length ∧ (∀ i ∈ s.done.take n, (s.of i).ended < (s.of t).began) ∧ ∀ i ∈ s.done.drop n, i ≠ t → (s.of t).began < (s.of i).ended
theorem cfit0 : CFit kst0 crs0 := ⟨rfl, fun _ => rfl, fun _ => rfl, fun _ => rfl, fun _ _ h => (by cases h)⟩
theorem mem_takeQ {l : List Int} {n : Nat} {i : Int} (h : i ∈ l.take n) : i ∈ l := List.mem_of_mem_take h
section
variable {l : List Op3} {k : Nat} {s : Kst} {q : Crs}
/-- A deal begins, if it has not. -/
theorem CFit.begin (h : CFit s q) (hK : KOk l k s) {t : Int} (hnd : t ∉ s.done) (hfr : s.beg t = false → s.of t = ⟨0, 0, [], []⟩) : CFit (stayStep s k t) (begQ q t) := by
  have hoth : ∀ i ∈ s.done, setF s.of t (nowK s k t) i = s.of i := fun i hi => setF_other _ _ fun e => hnd (e ▸ hi)
  have hb := h.beg t
  cases hbt : s.beg t with
  | true =>
    rw [hbt] at hb
    have e1 : begQ q t = q := by unfold begQ; rw [if_pos hb]
    have e2 : nowK s k t = s.of t := by unfold nowK; rw [if_pos hbt]
    have e3 : setF s.of t (nowK s k t) = s.of := by rw [e2]; funext u; by_cases e : u = t; · subst e; exact setF_same ..
                                                    · exact setF_other _ _ e
    have e4 : setF s.beg t true = s.beg := by funext u; by_cases e : u = t; · subst e; rw [setF_same, hbt]
                                              · exact setF_other _ _ e
    have e5 : stayStep s k t = s := by unfold stayStep; rw [e3, e4]
    rw [e1, e5]
    exact h
  | false =>
    rw [hbt] at hb
    have hq : begQ q t = { q with began := setF q.began t (some q.done.length) } := by unfold begQ; rw [if_neg (by rw [hb]; decide)]
    have e2 : nowK s k t = ⟨k, -1, [], []⟩ := by unfold nowK; rw [if_neg (by rw [hbt]; decide)]
    have hz := hfr hbt
    rw [hq]
    refine ⟨h.done, fun u => ?_, fun u => ?_, fun u => ?_, fun u n hu => ?_⟩
    · show q.read u = (setF s.of t (nowK s k t) u).seen
      by_cases e : u = t
      · subst e; rw [setF_same, e2, h.read u, hz]
      · rw [setF_other _ _ e]; exact h.read u
    · show q.wrote u = (setF s.of t (nowK s k t) u).wrote
      by_cases e : u = t
      · subst e; rw [setF_same, e2, h.wrote u, hz]
      · rw [setF_other _ _ e]; exact h.wrote u
    · show (setF q.began t (some q.done.length) u).isSome = setF s.beg t true u
      by_cases e : u = t
      · subst e; rw [setF_same, setF_same]; rfl
      · rw [setF_other _ _ e, setF_other _ _ e]; exact h.beg u
    · show n ≤ s.done.length ∧ (∀ i ∈ s.done.take n, (setF s.of t (nowK s k t) i).ended < (setF s.of t (nowK s k t) u).began) ∧ ∀ i ∈ s.done.drop n, i ≠ u → (setF s.of t (nowK s k t) u).began < (setF s.of t (nowK s k t) i).ended
      have hu' : setF q.began t (some q.done.length) u = some n := hu
      by_cases e : u = t
      · subst e
        rw [setF_same] at hu'
        have hn : n = s.done.length := by rw [← h.done]; exact (Option.some.inj hu').symm
        subst hn
        refine ⟨Nat.le_refl _, fun i hi => ?_, fun i hi => by rw [List.drop_length] at hi; cases hi⟩
        rw [setF_same, hoth i (mem_takeQ hi), e2]
        exact (hK.comm i (mem_takeQ hi)).2.2.2.2.1
      · rw [setF_other _ _ e] at hu'
        obtain ⟨a, b, c⟩ := h.cnt u n hu'
        refine ⟨a, fun i hi => ?_, fun i hi hiu => ?_⟩
        · rw [setF_other _ _ e, hoth i (mem_takeQ hi)]; exact b i hi
        · rw [setF_other _ _ e, hoth i (List.mem_of_mem_drop hi)]; exact c i hi hiu
/-- What a deal saw or wrote grows; when it began, who is done stays. -/
theorem CFit.grow (h : CFit s q) {t : Int} (r : Dl) (lk : List Op3) (q1 : Crs) (hd : q1.done = q.done) (hb : q1.began = q.began) (hr : ∀ u, q1.read u = (setF s.of t r u).seen) (hw : ∀ u, q1.wrote u = (setF s.of t r u).wrote) (hbt : s.beg t = true) (h1 : r.began = (s.of t).began) (h2 : r.ended = (s.of t).ended) : CFit ⟨s.done, setF s.of t r, s.beg, lk⟩ q1 := by
  have hB : ∀ u, (setF s.of t r u).began = (s.of u).began := fun u => by
    by_cases e : u = t
    · subst e; rw [setF_same]; exact h1
    · rw [setF_other _ _ e]
  have hE : ∀ u, (setF s.of t r u).ended = (s.of u).ended := fun u => by
    by_cases e : u = t
    · subst e; rw [setF_same]; exact h2
    · rw [setF_other _ _ e]
  refine ⟨by rw [hd]; exact h.done, hr, hw, fun u => by rw [hb]; exact h.beg u, fun u n hu => ?_⟩
  rw [hb] at hu
  obtain ⟨a, b, c⟩ := h.cnt u n hu
  show n ≤ s.done.length ∧ (∀ i ∈ s.done.take n, (setF s.of t r i).ended < (setF s.of t r u).began) ∧ ∀ i ∈ s.done.drop n, i ≠ u → (setF s.of t r u).began < (setF s.of t r i).ended
  refine ⟨a, fun i hi => ?_, fun i hi hiu => ?_⟩
  · rw [hE, hB]; exact b i hi
  · rw [hE, hB]; exact c i hi hiu
end
/-- What a Read sees of what its deal did not write. -/
def seeK (kind : Int) (s : Kst) (at_ : Int) (r : Dl) (t item : Int) : Int := if kind = 1 then whoK s.done s.of item at_ 0 else if kind = 4 then whoK s.done s.of item at_ t else whoK s.done s.of item r.began 0
theorem from_see (kind : Int) (s : Kst) (at_ : Int) (r : Dl) (t item : Int) : fromK kind s at_ r t item = if inB r.wrote item = true then t else seeK kind s at_ r t item := rfl
theorem set_set {α : Type} (f : Int → α) (t : Int) (a b : α) : setF (setF f t a) t b = setF f t b := by
  funext u
  by_cases e : u = t
  · subst e; rw [setF_same, setF_same]
  · rw [setF_other _ _ e, setF_other _ _ e, setF_other _ _ e]
/-- The rules answer as the kind has it. -/
def RulesK (kind : Int) (okF : Kst → Int → Dl → Bool) (seesF : Crs → Int → Int → Int) (fallF : Crs → Int → Bool) : Prop :=
  ∀ (l : List Op3) (k : Nat) (s : Kst) (q : Crs) (t : Int), KOk l k s → CFit s q → CFit (stayStep s k t) (begQ q t) → t ∉ s.done → 1 ≤ t → t ≤ 6 →
    (∀ item, seesF (begQ q t) t item = seeK kind s k (nowK s k t) t item) ∧ fallF (begQ q t) t = !okF s t (nowK s k t)
/-- .. of this run. -/
def RulesAt (l : List Op3) (kind : Int) (okF : Kst → Int → Dl → Bool) (seesF : Crs → Int → Int → Int) (fallF : Crs → Int → Bool) : Prop :=
  ∀ (k : Nat) (s : Kst) (q : Crs) (t : Int), k ≤ l.length → s = runK kind okF l k → KOk l k s → CFit s q → CFit (stayStep s k t) (begQ q t) → t ∉ s.done → 1 ≤ t → t ≤ 6 →
    (∀ item, seesF (begQ q t) t item = seeK kind s k (nowK s k t) t item) ∧ fallF (begQ q t) t = !okF s t (nowK s k t)
theorem RulesK.at {kind : Int} {okF : Kst → Int → Dl → Bool} {seesF : Crs → Int → Int → Int} {fallF : Crs → Int → Bool} (h : RulesK kind okF seesF fallF) (l : List Op3) : RulesAt l kind okF seesF fallF := fun k s q t _ _ h1 h2 h3 h4 h5 h6 => h l k s q t h1 h2 h3 h4 h5 h6
theorem cfit_step {kind : Int} {okF : Kst → Int → Dl → Bool} {seesF : Crs → Int → Int → Int} {fallF : Crs → Int → Bool} {l : List Op3} (hR : RulesAt l kind okF seesF fallF) {k : Nat} {s : Kst} {q : Crs} (hkl : k ≤ l.length) (hsr : s = runK kind okF l k) (h : CFit s q) (hK : KOk l k s) {o : Op3} (hnd : o.1 ∉ s.done) (hfr : s.beg o.1 = false → s.of o.1 = ⟨0, 0, [], []⟩) (ho1 : 1 ≤ o.1) (ho6 : o.1 ≤ 6) :
    CFit (stepK kind okF s k o) (stepQ seesF fallF q o) := by
  obtain ⟨t, a, i⟩ := o
  simp only at hnd hfr ho1 ho6
  have h1 := h.begin hK hnd hfr
  obtain ⟨hs, hf⟩ := hR k s q t hkl hsr hK h h1 hnd ho1 ho6
  have hbt : (stayStep s k t).beg t = true := by show setF s.beg t true t = true; exact setF_same ..
  have hof : (stayStep s k t).of t = nowK s k t := by show setF s.of t _ t = _; exact setF_same ..
  unfold stepK stepQ
  simp only
  split
  · have hsrc : srcQ seesF (begQ q t) t i = fromK kind s k (nowK s k t) t i := by
      unfold srcQ
      rw [from_see, h1.wrote t, hof, hs i]
    rw [hsrc]
    unfold readStep
    have := h1.grow (t := t) { nowK s k t with seen := (nowK s k t).seen ++ [(t, i, fromK kind s k (nowK s k t) t i)] } (if kind = 4 ∧ inB (nowK s k t).wrote i = false then s.looks ++ [(t, i, fromK kind s k (nowK s k t) t i)] else s.looks) (readQ (begQ q t) (t, i, fromK kind s k (nowK s k t) t i)) rfl rfl (fun u => ?_) (fun u => ?_) hbt (by rw [hof]) (by rw [hof])
    · have e : setF (stayStep s k t).of t { nowK s k t with seen := (nowK s k t).seen ++ [(t, i, fromK kind s k (nowK s k t) t i)] } = setF s.of t { nowK s k t with seen := (nowK s k t).seen ++ [(t, i, fromK kind s k (nowK s k t) t i)] } := set_set _ _ _ _
      rw [e] at this
      exact this
    · show setF (begQ q t).read t ((begQ q t).read t ++ [(t, i, fromK kind s k (nowK s k t) t i)]) u = _
      by_cases e : u = t
      · subst e; rw [setF_same, setF_same, h1.read u, hof]
      · rw [setF_other _ _ e, setF_other _ _ e]; exact h1.read u
    · show (begQ q t).wrote u = _
      by_cases e : u = t
      · subst e; rw [setF_same, h1.wrote u, hof]
      · rw [setF_other _ _ e]; exact h1.wrote u
  · split
    · unfold writeStep
      have := h1.grow (t := t) { nowK s k t with wrote := (nowK s k t).wrote ++ [i] } s.looks (writeQ (begQ q t) t i) rfl rfl (fun u => ?_) (fun u => ?_) hbt (by rw [hof]) (by rw [hof])
      · have e : setF (stayStep s k t).of t { nowK s k t with wrote := (nowK s k t).wrote ++ [i] } = setF s.of t { nowK s k t with wrote := (nowK s k t).wrote ++ [i] } := set_set _ _ _ _
        rw [e] at this
        exact this
      · show (begQ q t).read u = _
        by_cases e : u = t
        · subst e; rw [setF_same, h1.read u, hof]
        · rw [setF_other _ _ e]; exact h1.read u
      · show setF (begQ q t).wrote t ((begQ q t).wrote t ++ [i]) u = _
        by_cases e : u = t
        · subst e; rw [setF_same, setF_same, h1.wrote u, hof]
        · rw [setF_other _ _ e, setF_other _ _ e]; exact h1.wrote u
    · split
      · rw [hf]
        cases hok : okF s t (nowK s k t) with
        | false =>
          rw [if_neg (by decide), if_pos (by decide)]
          exact h1
        | true =>
          rw [if_pos rfl, if_neg (by decide)]
          unfold doneStep
          have hoth : ∀ u, u ≠ t → setF s.of t { nowK s k t with ended := (k : Int) } u = s.of u := fun u hu => setF_other _ _ hu
          refine ⟨?_, fun u => ?_, fun u => ?_, fun u => h1.beg u, fun u n hu => ?_⟩
          · show (begQ q t).done ++ [t] = s.done ++ [t]
            rw [h1.done]; rfl
          · show (begQ q t).read u = (setF s.of t { nowK s k t with ended := (k : Int) } u).seen
            by_cases e : u = t
            · subst e; rw [setF_same, h1.read u, hof]
            · rw [hoth u e, begQ_read]; exact h.read u
          · show (begQ q t).wrote u = (setF s.of t { nowK s k t with ended := (k : Int) } u).wrote
            by_cases e : u = t
            · subst e; rw [setF_same, h1.wrote u, hof]
            · rw [hoth u e, begQ_wrote]; exact h.wrote u
          · show n ≤ (s.done ++ [t]).length ∧ (∀ i ∈ (s.done ++ [t]).take n, (setF s.of t { nowK s k t with ended := (k : Int) } i).ended < (setF s.of t { nowK s k t with ended := (k : Int) } u).began) ∧ ∀ i ∈ (s.done ++ [t]).drop n, i ≠ u → (setF s.of t { nowK s k t with ended := (k : Int) } u).began < (setF s.of t { nowK s k t with ended := (k : Int) } i).ended
            have hu1 : (begQ q t).began u = some n := hu
            have hbu : (setF s.of t { nowK s k t with ended := (k : Int) } u).began = (setF s.of t (nowK s k t) u).began := by
              by_cases e : u = t
              · subst e; rw [setF_same, setF_same]
              · rw [setF_other _ _ e, setF_other _ _ e]
            obtain ⟨a, b, c⟩ := h1.cnt u n hu1
            have a' : n ≤ s.done.length := a
            have b' : ∀ i ∈ s.done.take n, (setF s.of t (nowK s k t) i).ended < (setF s.of t (nowK s k t) u).began := b
            have c' : ∀ i ∈ s.done.drop n, i ≠ u → (setF s.of t (nowK s k t) u).began < (setF s.of t (nowK s k t) i).ended := c
            have hne : ∀ i ∈ s.done, i ≠ t := fun i hi e => hnd (e ▸ hi)
            refine ⟨by rw [List.length_append, List.length_singleton]; omega, fun i hi => ?_, fun i hi hiu => ?_⟩
            · rw [List.take_append_of_le_length a'] at hi
              have := b' i hi
              rw [setF_other _ _ (hne i (mem_takeQ hi))] at this ⊢
              rw [hbu]
              exact this
            · rw [List.drop_append_of_le_length a'] at hi
              rw [hbu]
              rcases List.mem_append.1 hi with hi | hi
              · have := c' i hi hiu
                rw [setF_other _ _ (hne i (List.mem_of_mem_drop hi))] at this ⊢
                exact this
              · have hit := List.mem_singleton.1 hi
                have hut : u ≠ t := fun e => hiu (hit.trans e.symm)
                have hub : s.beg u = true := by
                  have := h1.beg u
                  rw [hu1] at this
                  have h5 : setF s.beg t true u = true := this.symm
                  rw [setF_other _ _ hut] at h5
                  exact h5
                rw [hit, setF_same, setF_other _ _ hut]
                exact (hK.times u hub).2
      · exact h1
theorem of_fresh (kind : Int) (okF : Kst → Int → Dl → Bool) (l : List Op3) : ∀ k t, (runK kind okF l k).beg t = false → (runK kind okF l k).of t = ⟨0, 0, [], []⟩ := by
  intro k
  induction k with
  | zero => intro t _; rfl
  | succ k ih =>
    intro t ht
    have key : ∀ r : Dl, setF (runK kind okF l k).beg (opAt l k).1 true t = false → setF (runK kind okF l k).of (opAt l k).1 r t = ⟨0, 0, [], []⟩ := fun r hb => by
      have hne : t ≠ (opAt l k).1 := fun e => by rw [e, setF_same] at hb; cases hb
      rw [setF_other _ _ hne] at hb ⊢
      exact ih t hb
    have ht' : (stepK kind okF (runK kind okF l k) k (opAt l k)).beg t = false := ht
    show (stepK kind okF (runK kind okF l k) k (opAt l k)).of t = _
    unfold stepK at ht' ⊢
    split at ht'
    · rename_i h1; rw [if_pos h1]; exact key _ ht'
    · rename_i h1
      rw [if_neg h1]
      split at ht'
      · rename_i h2; rw [if_pos h2]; exact key _ ht'
      · rename_i h2
        rw [if_neg h2]
        split at ht'
        · rename_i h3
          rw [if_pos h3]
          split at ht'
          · rename_i h4; rw [if_pos h4]; exact key _ ht'
          · rename_i h4; rw [if_neg h4]; exact key _ ht'
        · rename_i h3; rw [if_neg h3]; exact key _ ht'
theorem cfit_at {kind : Int} {okF : Kst → Int → Dl → Bool} {seesF : Crs → Int → Int → Int} {fallF : Crs → Int → Bool} {l : List Op3} (hR : RulesAt l kind okF seesF fallF) (hc : (chk l).2 = 0) : ∀ k, k ≤ l.length → CFit (runK kind okF l k) (runQ seesF fallF l k) := by
  intro k
  induction k with
  | zero => intro _; exact cfit0
  | succ k ih =>
    intro hk
    have hK := run_kOk kind okF hc k (by omega)
    have h16 := isOp_range (((chk_iff l).1 hc).2.1 _ (opAt_mem (show k < l.length by omega)))
    exact cfit_step hR (by omega) rfl (ih (by omega)) hK (hK.free ((chk_iff l).1 hc).2.2 (by omega)) (of_fresh kind okF l k _) h16.1 h16.2
theorem cfit_all {kind : Int} {okF : Kst → Int → Dl → Bool} {seesF : Crs → Int → Int → Int} {fallF : Crs → Int → Bool} (hR : RulesK kind okF seesF fallF) {l : List Op3} (hc : (chk l).2 = 0) : ∀ k, k ≤ l.length → CFit (runK kind okF l k) (runQ seesF fallF l k) := cfit_at (hR.at l) hc
/-- What it comes to. -/
theorem crs_at {kind : Int} {okF : Kst → Int → Dl → Bool} {seesF : Crs → Int → Int → Int} {fallF : Crs → Int → Bool} (byN : Bool) {l : List Op3} (hR : RulesAt l kind okF seesF fallF) (hc : (chk l).2 = 0) :
    outU kind okF byN l = ((ordN byN (runQ seesF fallF l l.length).done, (ordN byN (runQ seesF fallF l l.length).done).flatMap (runQ seesF fallF l l.length).read, (List.range 6).map fun i : Nat => lastQ (runQ seesF fallF l l.length).wrote (ordN byN (runQ seesF fallF l l.length).done) ((i : Int) + 1)), 0) := by
  have h := cfit_at hR hc l.length (Nat.le_refl _)
  rw [outU_ok hc]
  have e1 : (runQ seesF fallF l l.length).read = fun t => ((runK kind okF l l.length).of t).seen := funext h.read
  have e2 : (runQ seesF fallF l l.length).wrote = fun t => ((runK kind okF l l.length).of t).wrote := funext h.wrote
  rw [e1, e2, h.done]
  rfl
theorem crs_out {kind : Int} {okF : Kst → Int → Dl → Bool} {seesF : Crs → Int → Int → Int} {fallF : Crs → Int → Bool} (hR : RulesK kind okF seesF fallF) {l : List Op3} (hc : (chk l).2 = 0) :
    outU kind okF false l = (((runQ seesF fallF l l.length).done, (runQ seesF fallF l l.length).done.flatMap (runQ seesF fallF l l.length).read, (List.range 6).map fun i : Nat => lastQ (runQ seesF fallF l l.length).wrote (runQ seesF fallF l l.length).done ((i : Int) + 1)), 0) := crs_at false (hR.at l) hc
/-- Chapter 11's rules. -/
def seesV (q : Crs) (_ item : Int) : Int := lastQ q.wrote q.done item
def fallV (q : Crs) (t : Int) : Bool := (q.done.drop ((q.began t).getD 0)).any fun o => (q.read t).any fun x => x.2.2 != t && inB (q.wrote o) x.2.1
theorem rulesV : RulesK 1 okV seesV fallV := by
  intro l k s q t hK h h1 hnd _ _
  constructor
  · intro item
    unfold seesV seeK
    rw [if_pos rfl, begQ_done, begQ_wrote, h.done, who_last (fun i hi => (hK.comm i hi).2.2.2.2.1)]
    unfold lastQ lastK
    have e2 : q.wrote = fun t => (s.of t).wrote := funext h.wrote
    rw [e2]
  · have hb : ((begQ q t).began t).isSome = true := by rw [h1.beg t]; show setF s.beg t true t = true; exact setF_same ..
    obtain ⟨n, hn⟩ := Option.isSome_iff_exists.1 hb
    obtain ⟨a, b, c⟩ := h1.cnt t n hn
    have hof : (stayStep s k t).of t = nowK s k t := by show setF s.of t _ t = _; exact setF_same ..
    have hoth : ∀ i ∈ s.done, (stayStep s k t).of i = s.of i := fun i hi => by show setF s.of t _ i = _; exact setF_other _ _ fun e => hnd (e ▸ hi)
    have a' : n ≤ s.done.length := a
    have b' : ∀ i ∈ s.done.take n, ((stayStep s k t).of i).ended < ((stayStep s k t).of t).began := b
    have c' : ∀ i ∈ s.done.drop n, i ≠ t → ((stayStep s k t).of t).began < ((stayStep s k t).of i).ended := c
    unfold fallV okV hitK
    rw [Bool.not_not, hn, begQ_done, h.done, h1.read t, hof, begQ_wrote, Bool.eq_iff_iff]
    simp only [Option.getD_some, List.any_eq_true, Bool.and_eq_true, decide_eq_true_eq]
    constructor
    · rintro ⟨i, hi, x, hx, hxt, hw⟩
      have hi' := List.mem_of_mem_drop hi
      have hc' := c' i hi fun e => hnd (e ▸ hi')
      rw [hof, hoth i hi'] at hc'
      rw [h.wrote i] at hw
      refine ⟨i, hi', x.2.1, inB_iff.1 hw, hc', ?_⟩
      rw [if_neg (by decide)]
      exact List.any_eq_true.2 ⟨x, hx, by simp only [Bool.and_eq_true, beq_self_eq_true, true_and]; exact hxt⟩
    · rintro ⟨i, hi, item, hit, hlt, hrd⟩
      rw [if_neg (by decide)] at hrd
      obtain ⟨x, hx, hxx⟩ := List.any_eq_true.1 hrd
      simp only [Bool.and_eq_true, beq_iff_eq] at hxx
      refine ⟨i, ?_, x, hx, hxx.2, ?_⟩
      · rcases List.mem_append.1 (by rw [List.take_append_drop]; exact hi : i ∈ s.done.take n ++ s.done.drop n) with hm | hm
        · have := b' i hm
          rw [hof, hoth i hi] at this
          omega
        · exact hm
      · rw [h.wrote i, hxx.1]; exact inB_iff.2 hit
end Go.Proofs.YtccjognnehoodafDoor

namespace Go.Proofs.YtccjognnehoodafDoor
open Go.RowKit
open Go.Maps (Keyed)

/-- An element, as it is. -/
def heldElem (v : Value) : Option (DataW Value × List MemPlace) := some (.held v, [])
theorem KI : Keyed Tryd.prog 3 := Maps.int_keyed Tryd.underlying3
abbrev Wf (x : Int) : Prop := (Lit.int .i64 x).wf = true
theorem wf_deal {x : Int} (h1 : 1 ≤ x) (h6 : x ≤ 6) : Wf x := WalkArith.wf_i64 (by omega)
theorem keyI {x : Int} (h : Wf x) : keyOf Tryd.prog 3 (.int .i64 x) = some (.int .i64 x) := Maps.keyOf_int_mk Tryd.underlying3 h
/-- A map in memory, key by key. -/
def MapIs (w : World) (b : Nat) (f : Int → Option Value) (m : Nat) : Prop :=
  ∃ D : DataW Value, w.ownsMap Tryd.prog 3 heldElem b m D ∧ Maps.size D = m ∧ (∀ x, Wf x → Maps.has D (.int .i64 x) = (f x).isSome) ∧ (∀ x v, Wf x → f x = some v → ∀ z, D.atKey (.int .i64 x) z = .held v) ∧ ∀ x, (f x).isSome = true → 1 ≤ x ∧ x ≤ 6
theorem lits_len : ∀ (l m : List Lit), l.Pairwise (· ≠ ·) → (∀ x ∈ l, x ∈ m) → l.length ≤ m.length := by
  intro l
  induction l with
  | nil => intro m _ _; exact Nat.zero_le _
  | cons x r ih =>
    intro m hp hm
    rw [List.pairwise_cons] at hp
    obtain ⟨a, b, rfl⟩ := List.append_of_mem (hm x List.mem_cons_self)
    have h1 := ih (a ++ b) hp.2 fun y hy => by
      have h2 := hm y (List.mem_cons_of_mem _ hy)
      rw [List.mem_append, List.mem_cons] at h2
      rw [List.mem_append]
      rcases h2 with h2 | h2 | h2
      · exact .inl h2
      · exact absurd h2.symm (hp.1 y hy)
      · exact .inr h2
    simp only [List.length_append, List.length_cons] at h1 ⊢
    omega
theorem own_tight {w : World} {b n : Nat} {D : DataW Value} (h : w.ownsMap Tryd.prog 3 heldElem b n D) : w.ownsMap Tryd.prog 3 heldElem b (Maps.size D) D := by
  obtain ⟨es, clock, hb, F, hs, rfl⟩ := h
  refine ⟨es, clock, hb, F, ?_, rfl⟩
  simp [Maps.size, length_sorted]
theorem own_int {w : World} {b n : Nat} {D : DataW Value} (h : w.ownsMap Tryd.prog 3 heldElem b n D) : ∃ es, D = .map es ∧ es.Pairwise (fun p q => p.1 ≠ q.1) ∧ ∀ p ∈ es, ∃ x, Wf x ∧ p.1 = .int .i64 x ∧ Maps.has D p.1 = true := by
  obtain ⟨es, h1, h2, h3⟩ := h.entries KI
  refine ⟨es, h1, h2, fun p hp => ?_⟩
  have hh : Maps.has D p.1 = true := by rw [h1]; exact List.any_eq_true.2 ⟨p, hp, WideAt.sameKey_self (h3 p hp)⟩
  obtain ⟨ms, clock, hb, F, hs, hD⟩ := h
  rw [h1] at hD
  have hD' : es = (ms.toList.map (WideElems.rg Tryd.prog 3 heldElem)).foldr DataW.insert [] := by injection hD
  rw [hD', mem_sorted] at hp
  obtain ⟨e, he, rfl⟩ := List.mem_map.1 hp
  obtain ⟨y, hy⟩ := F.reads e he
  obtain ⟨x, -, hx, hw⟩ := Maps.keyOf_int_inv Tryd.underlying3 (WideElems.rd_key hy)
  exact ⟨x, hw, by rw [WideElems.rg_of hy]; exact hx, hh⟩
section
variable {w w1 : World} {b m : Nat} {f : Int → Option Value}
theorem MapIs.lt (h : MapIs w b f m) : b < w.heap.size := by obtain ⟨D, h1, _⟩ := h; exact h1.lt
theorem MapIs.small (h : MapIs w b f m) : m ≤ 6 := by
  obtain ⟨D, h1, h2, h3, h4, h5⟩ := h
  obtain ⟨es, e1, e2, e3⟩ := own_int h1
  have h6 := lits_len (es.map (·.1)) [.int .i64 1, .int .i64 2, .int .i64 3, .int .i64 4, .int .i64 5, .int .i64 6] (List.pairwise_map.2 e2) fun k hk => by
    obtain ⟨p, hp, rfl⟩ := List.mem_map.1 hk
    obtain ⟨x, hw, hx, hh⟩ := e3 p hp
    rw [hx] at hh
    rw [h3 x hw] at hh
    have h7 := h5 x hh
    rw [hx]
    rcases six h7.1 h7.2 with rfl | rfl | rfl | rfl | rfl | rfl <;> simp
  rw [← h2, e1]
  simpa [Maps.size] using h6
theorem MapIs.turn {F : Nat → Prop} (h : MapIs w b f m) (ht : Turns F w w1) (hF : ¬ F b) : MapIs w1 b f m := by
  have hl := h.lt
  obtain ⟨D, ⟨es, clock, hb, r⟩, h2⟩ := h
  exact ⟨D, ⟨es, clock, (ht.block b hl hF).trans hb, r⟩, h2⟩
theorem MapIs.drew (h : MapIs w b f m) : MapIs w.drew b f m := h
theorem MapIs.congr {g : Int → Option Value} (h : MapIs w b f m) (e : ∀ x, g x = f x) : MapIs w b g m := by
  obtain rfl : g = f := funext e
  exact h
theorem mapIs_made (w : World) : MapIs (w.alloc (.map #[] 0)) w.heap.size (fun _ => none) 0 :=
  ⟨.map [], World.ownsMap_made w _ _ _, rfl, fun x _ => rfl, fun x v _ h => (by cases h), fun x h => (by cases h)⟩
theorem turned_turns {w' : World} (h : w.mapTurned w' b) : Turns (fun k => k = b) w w' := (Turns.refl _ w).grown h.grown fun _ hk => .inl (Option.some.inj hk).symm
theorem key_ne {x y : Int} (h : x ≠ y) : Lit.int .i64 x ≠ Lit.int .i64 y := fun e => h (by injection e)
theorem key_lit {x : Int} (h : Wf x) : WideAt.IsKeyLit (.int .i64 x) := KI.key (keyI h)
/-- What is looked up. -/
theorem MapIs.look (c : Bool) {t e : TypeId} {z : Value} {x : Int} (h : MapIs w b f m) (ht : Tryd.prog.underlying t = some (.map 3 e)) (hz : (zeroValue e).run Tryd.prog w = .ok z w) (hx : Wf x) :
    (Instr.lookup t (.map (some b)) (.int .i64 x) c).run Tryd.prog w = .ok (if c then .tuple #[(f x).getD z, .bool (f x).isSome] else (f x).getD z) w := by
  obtain ⟨D, h1, h2, h3, h4, h5⟩ := h
  have hv : ∀ v ps, heldElem v = some (D.atKey (.int .i64 x) (.held z), ps) → v = (f x).getD z := fun v ps hv => by
    simp only [heldElem, Option.some.injEq, Prod.mk.injEq] at hv
    cases hf : f x with
    | some u =>
      rw [h4 x u hx hf] at hv
      have := hv.1
      injection this with this
    | none =>
      rw [Maps.atKey_of_not_has (by rw [h3 x hx, hf]; rfl)] at hv
      have := hv.1
      injection this with this
  cases c with
  | true =>
    obtain ⟨v, ps, hr, hR⟩ := h1.look_ok KI ht hz (zd := .held z) (zp := []) rfl (keyI hx)
    rw [hr, h3 x hx, hv v ps hR]
    rfl
  | false =>
    obtain ⟨v, ps, hr, hR⟩ := h1.lookup KI ht hz (zd := .held z) (zp := []) rfl (keyI hx)
    rw [hr, hv v ps hR]
    rfl
/-- What is laid in. -/
theorem MapIs.store {t e : TypeId} {x : Int} {v : Value} (h : MapIs w b f m) (ht : Tryd.prog.underlying t = some (.map 3 e)) (h1 : 1 ≤ x) (h6 : x ≤ 6) :
    ∃ w', (Instr.mapUpdate t (.map (some b)) (.int .i64 x) v).run Tryd.prog w = .ok () w' ∧ MapIs w' b (setF f x (some v)) (if (f x).isSome then m else m + 1) ∧ Turns (fun k => k = b) w w' := by
  have hs := h.small
  have hx := wf_deal h1 h6
  obtain ⟨D, k1, k2, k3, k4, k5⟩ := h
  obtain ⟨w', hr, ho, htu⟩ := k1.store KI ht (by unfold maxLen; omega) (keyI hx) (d := .held v) (ps := []) rfl
  have hsz : Maps.size (D.put (.int .i64 x) (.held v)) = if (f x).isSome then m else m + 1 := by
    rw [Maps.size_put (k1.tidy KI), k3 x hx, k2]
  refine ⟨w', hr, ⟨_, ?_, hsz, fun y hy => ?_, fun y u hy hu => ?_, fun y hy => ?_⟩, turned_turns htu⟩
  · rw [← hsz]; exact own_tight ho
  · by_cases e : y = x
    · subst e; rw [setF_same, Maps.has_put_same k1.isMap (key_lit hx)]; rfl
    · rw [setF_other _ _ e, Maps.has_put_other (key_ne e)]; exact k3 y hy
  · intro z
    by_cases e : y = x
    · subst e
      rw [setF_same] at hu
      rw [Maps.atKey_put_same k1.isMap (key_lit hx), Option.some.inj hu]
    · rw [setF_other _ _ e] at hu
      rw [Maps.atKey_put_other (key_ne e)]; exact k4 y u hy hu z
  · by_cases e : y = x
    · subst e; exact ⟨h1, h6⟩
    · rw [setF_other _ _ e] at hy; exact k5 y hy
/-- What is struck out. -/
theorem MapIs.drop {t e : TypeId} {x : Int} (h : MapIs w b f m) (ht : Tryd.prog.underlying t = some (.map 3 e)) (hx : Wf x) (ty : TypeId) :
    ∃ w' m', (Builtin.delete_ #[t, 3] ty #[.map (some b), .int .i64 x]).run Tryd.prog w = .ok (.tuple #[]) w' ∧ MapIs w' b (setF f x none) m' ∧ Turns (fun k => k = b) w w' := by
  obtain ⟨D, k1, k2, k3, k4, k5⟩ := h
  obtain ⟨w', hr, ho, htu⟩ := k1.drop KI ht (keyI hx) ty
  refine ⟨w', Maps.size (D.del (.int .i64 x)), hr, ⟨_, own_tight ho, rfl, fun y hy => ?_, fun y u hy hu => ?_, fun y hy => ?_⟩, turned_turns htu⟩
  · by_cases e : y = x
    · subst e; rw [setF_same, Maps.has_del_same]; rfl
    · rw [setF_other _ _ e, Maps.has_del_other (key_ne e)]; exact k3 y hy
  · intro z
    by_cases e : y = x
    · subst e
      rw [setF_same] at hu
      cases hu
    · rw [setF_other _ _ e] at hu
      rw [Maps.atKey_del_other (key_ne e)]; exact k4 y u hy hu z
  · by_cases e : y = x
    · subst e; rw [setF_same] at hy; cases hy
    · rw [setF_other _ _ e] at hy; exact k5 y hy
end
section
variable (w : World) {ops : Array Oper} {rest : List Oper} {o : Oper} {a : Act} {Q : Exit → Act → World → Prop}
theorem wp_drop (hg : o.guard = none) (p x : Operand) (t : TypeId) (hop : o.op = Op.call { callee := Callee.builtin Builtin.delete, args := #[p, x], argTypes := #[t, 3] })
    (e : TypeId) (ht : Tryd.prog.underlying t = some (.map 3 e)) (b m : Nat) (f : Int → Option Value) (hm : a.eval p = .map (some b)) (h : MapIs w b f m) (y : Int) (hx : a.eval x = .int .i64 y) (hy : Wf y)
    (hK : ∀ w' m', MapIs w' b (setF f y none) m' → Turns (fun k => k = b) w w' → wpList Tryd.prog ops Q rest (a.put o.dst (.tuple #[])) w') : wpList Tryd.prog ops Q (o :: rest) a w := by
  refine wpList_plain hg fun K' hK' => ?_
  obtain ⟨w', m', hrun, r1, r2⟩ := h.drop ht hy o.type
  unfold Oper.wp
  simp [execOp, hop, resolve, invoke, builtin, hm, hx, hrun, Result.andThen]
  exact hK' _ _ (hK w' m' r1 r2)
theorem wp_len (hg : o.guard = none) (p : Operand) (t : TypeId) (hop : o.op = Op.call { callee := Callee.builtin Builtin.len, args := #[p], argTypes := #[t] })
    (e : TypeId) (ht : Tryd.prog.underlying t = some (.map 3 e)) (b m : Nat) (f : Int → Option Value) (hm : a.eval p = .map (some b)) (h : MapIs w b f m)
    (hK : wpList Tryd.prog ops Q rest (a.put o.dst (.int .i64 m)) w) : wpList Tryd.prog ops Q (o :: rest) a w := by
  obtain ⟨D, k1, k2, -⟩ := h
  exact wpList_len_own w hg p t hop 3 e ht heldElem b m D hm k1 (by rw [k2]; exact hK)
theorem wp_store (hg : o.guard = none) (p x v : Operand) (t : TypeId) (hop : o.op = Op.mapUpdate t p x v)
    (e : TypeId) (ht : Tryd.prog.underlying t = some (.map 3 e)) (b m : Nat) (f : Int → Option Value) (hm : a.eval p = .map (some b)) (h : MapIs w b f m) (y : Int) (val : Value) (hx : a.eval x = .int .i64 y) (hv : a.eval v = val) (h1 : 1 ≤ y) (h6 : y ≤ 6)
    (hK : ∀ w', MapIs w' b (setF f y (some val)) (if (f y).isSome then m else m + 1) → Turns (fun k => k = b) w w' → wpList Tryd.prog ops Q rest (a.put o.dst undef) w') : wpList Tryd.prog ops Q (o :: rest) a w := by
  refine wpList_plain hg fun K' hK' => ?_
  obtain ⟨w', hrun, r1, r2⟩ := h.store (v := val) ht h1 h6
  unfold Oper.wp
  simp [execOp, hop, hm, hx, hv, hrun, Result.andThen]
  exact hK' _ _ (hK w' r1 r2)
theorem wp_look (hg : o.guard = none) (p x : Operand) (t : TypeId) (c : Bool) (hop : o.op = Op.lookup t p x c)
    (e : TypeId) (ht : Tryd.prog.underlying t = some (.map 3 e)) (z : Value) (hz : (zeroValue e).run Tryd.prog w = .ok z w) (b m : Nat) (f : Int → Option Value) (hm : a.eval p = .map (some b)) (h : MapIs w b f m) (y : Int) (hx : a.eval x = .int .i64 y) (hy : Wf y) (u : Value) (b0 : Bool) (hu : (f y).getD z = u) (hb : (f y).isSome = b0)
    (hK : wpList Tryd.prog ops Q rest (a.put o.dst (if c then .tuple #[u, .bool b0] else u)) w) : wpList Tryd.prog ops Q (o :: rest) a w := by
  refine wpList_plain hg fun K' hK' => ?_
  have hrun := h.look c ht hz hy
  rw [hu, hb] at hrun
  unfold Oper.wp
  simp only [execOp, hop, hm, hx, Sem.run_bind, hrun, Result.andThen]
  exact hK' _ _ hK
/-- Struck out, as one step of a region that draws. -/
theorem step_drop {K : Act → World → Prop} {E : Prop} (hg : o.guard = none) (p x : Operand) (t : TypeId) (hop : o.op = Op.call { callee := Callee.builtin Builtin.delete, args := #[p, x], argTypes := #[t, 3] })
    (e : TypeId) (ht : Tryd.prog.underlying t = some (.map 3 e)) (b m : Nat) (f : Int → Option Value) (hm : a.eval p = .map (some b)) (h : MapIs w b f m) (y : Int) (hx : a.eval x = .int .i64 y) (hy : Wf y)
    (hK : ∀ w' m', MapIs w' b (setF f y none) m' → Turns (fun k => k = b) w w' → K (a.put o.dst (.tuple #[])) w') : if Region.wanted o (yielded ops a.tmps) = true then Oper.wp Tryd.prog o a w K Q else E := by
  have hw : Region.wanted o (yielded ops a.tmps) = true := by simp [Region.wanted, hg]
  rw [if_pos hw]
  obtain ⟨w', m', hrun, r1, r2⟩ := h.drop ht hy o.type
  unfold Oper.wp
  simp [execOp, hop, resolve, invoke, builtin, hm, hx, hrun, Result.andThen]
  exact hK w' m' r1 r2
end
end Go.Proofs.YtccjognnehoodafDoor
