/-
  PROVED HERE: plain facts, with no word of the program: runs in which deals see what was done (chapters 11 to 14: looked at when they end, by what was when they began, with nobody between, with versions) as functions on lists; what is always so of them.
  Conditions: none.
  (Of these, what the claim wants: the rest was left out.)
-/
import Derived.Test.YtmgadiopjofegaiStampPlain
namespace Go.Proofs.Ytmgadiopjofegai

/-- A deal of a run: when it began, when it ended (-1: it did not), what it saw (deal, item, from), what it wrote. -/
structure Dl where
  began : Int
  ended : Int
  seen : List Op3
  wrote : List Int
/-- How a run stands: who is done, as they ended; each deal; who has begun; what was looked at. -/
structure Kst where
  done : List Int
  of : Int → Dl
  beg : Int → Bool
  looks : List Op3
/-- Who wrote an item last, of those that ended by a time; below: of those of a lesser number the greatest. -/
def whoK (done : List Int) (of : Int → Dl) (item time below : Int) : Int :=
  done.foldl (fun f t => if (!inB (of t).wrote item || decide (time ≤ (of t).ended)) = true then f else if below = 0 then t else if t < below ∧ f < t then t else f) 0
/-- A deal as it is when its next op comes. -/
def nowK (s : Kst) (at_ : Int) (t : Int) : Dl := if s.beg t = true then s.of t else ⟨at_, -1, [], []⟩
/-- What a Read sees. -/
def fromK (kind : Int) (s : Kst) (at_ : Int) (r : Dl) (t item : Int) : Int :=
  if inB r.wrote item = true then t else if kind = 1 then whoK s.done s.of item at_ 0 else if kind = 4 then whoK s.done s.of item at_ t else whoK s.done s.of item r.began 0
def readStep (kind : Int) (s : Kst) (at_ t item : Int) : Kst :=
  { s with of := setF s.of t { nowK s at_ t with seen := (nowK s at_ t).seen ++ [(t, item, fromK kind s at_ (nowK s at_ t) t item)] }, beg := setF s.beg t true,
           looks := if kind = 4 ∧ inB (nowK s at_ t).wrote item = false then s.looks ++ [(t, item, fromK kind s at_ (nowK s at_ t) t item)] else s.looks }
def writeStep (s : Kst) (at_ t item : Int) : Kst := { s with of := setF s.of t { nowK s at_ t with wrote := (nowK s at_ t).wrote ++ [item] }, beg := setF s.beg t true }
def stayStep (s : Kst) (at_ t : Int) : Kst := { s with of := setF s.of t (nowK s at_ t), beg := setF s.beg t true }
def doneStep (s : Kst) (at_ t : Int) : Kst := { s with done := s.done ++ [t], of := setF s.of t { nowK s at_ t with ended := at_ }, beg := setF s.beg t true }
/-- An op comes; okF: may its deal commit? -/
def stepK (kind : Int) (okF : Kst → Int → Dl → Bool) (s : Kst) (at_ : Int) (o : Op3) : Kst :=
  if o.2.1 = 1 then readStep kind s at_ o.1 o.2.2 else if o.2.1 = 2 then writeStep s at_ o.1 o.2.2
  else if o.2.1 = 3 then (if okF s o.1 (nowK s at_ o.1) = true then doneStep s at_ o.1 else stayStep s at_ o.1) else stayStep s at_ o.1
/-- What a deal sees if those that were there wrote 'last': itself, where it wrote, else that. -/
def expStep (t : Int) (last : Int → Int) (s : List Op3 × List Int) (o : Op3) : List Op3 × List Int :=
  if o.2.1 = 1 then (s.1 ++ [(t, o.2.2, if inB s.2 o.2.2 = true then t else last o.2.2)], s.2) else if o.2.1 = 2 then (s.1, s.2 ++ [o.2.2]) else s
def expK (t : Int) (last : Int → Int) (own : List Op3) : List Op3 × List Int := own.foldl (expStep t last) ([], [])
theorem expK_snoc (t : Int) (last : Int → Int) (own : List Op3) (o : Op3) : expK t last (own ++ [o]) = expStep t last (expK t last own) o := by
  unfold expK
  rw [List.foldl_append]
  rfl
/-- What is always so, of whatever kind, when the first k ops have come. -/
structure KOk (l : List Op3) (k : Nat) (s : Kst) : Prop where
  fresh : ∀ t, s.beg t = false → ofL (l.take k) t = []
  sees : ∀ t, s.beg t = true → ∀ last : Int → Int, (∀ e ∈ (s.of t).seen, e.2.2 ≠ t → e.2.2 = last e.2.1) → ((s.of t).seen, (s.of t).wrote) = expK t last (ofL (l.take k) t)
  txs : ∀ t, s.beg t = true → ∀ e ∈ (s.of t).seen, e.1 = t
  once : s.done.Nodup
  comm : ∀ t ∈ s.done, s.beg t = true ∧ 1 ≤ t ∧ t ≤ 6 ∧ 0 ≤ (s.of t).ended ∧ (s.of t).ended < k ∧ opAt l (s.of t).ended.toNat = (t, 3, 0)
  open_ : ∀ t, s.beg t = true → t ∉ s.done → (s.of t).ended = -1
  times : ∀ t, s.beg t = true → 0 ≤ (s.of t).began ∧ (s.of t).began < k
theorem of_take {l : List Op3} {k : Nat} (hk : k < l.length) (t : Int) : ofL (l.take (k + 1)) t = ofL (l.take k) t ++ (if (opAt l k).1 = t then [opAt l k] else []) := by
  rw [List.take_succ_eq_append_getElem hk]
  have e : l[k] = opAt l k := by simp [opAt, List.getD, List.getElem?_eq_getElem hk]
  rw [e]
  exact of_snoc _ _ _
/-- The deal itself, as it is when its op comes. -/
theorem KOk.now {l : List Op3} {k : Nat} {s : Kst} (h : KOk l k s) (t : Int) : (∀ last : Int → Int, (∀ e ∈ (nowK s k t).seen, e.2.2 ≠ t → e.2.2 = last e.2.1) → ((nowK s k t).seen, (nowK s k t).wrote) = expK t last (ofL (l.take k) t)) ∧ (∀ e ∈ (nowK s k t).seen, e.1 = t) ∧ (0 ≤ (nowK s k t).began ∧ (nowK s k t).began < (k : Int) + 1) ∧ (t ∉ s.done → (nowK s k t).ended = -1) := by
  unfold nowK
  split
  · rename_i hb
    exact ⟨h.sees t hb, h.txs t hb, by have := h.times t hb; omega, h.open_ t hb⟩
  · rename_i hb
    have hb' : s.beg t = false := by simpa using hb
    refine ⟨fun last _ => ?_, fun e he => (by cases he), by dsimp only; omega, fun _ => rfl⟩
    rw [h.fresh t hb']
    rfl
/-- Whatever becomes of one deal, the others stay. -/
theorem KOk.step {l : List Op3} {k : Nat} {s : Kst} (h : KOk l k s) (hk : k < l.length) (t : Int) (ht : (opAt l k).1 = t) (r : Dl) (dn : List Int) (lk : List Op3) (hnd : t ∉ s.done)
    (hsees : ∀ last : Int → Int, (∀ e ∈ r.seen, e.2.2 ≠ t → e.2.2 = last e.2.1) → (r.seen, r.wrote) = expK t last (ofL (l.take (k + 1)) t)) (htx : ∀ e ∈ r.seen, e.1 = t) (hbeg : 0 ≤ r.began ∧ r.began < (k : Int) + 1)
    (hd : (dn = s.done ∧ r.ended = -1) ∨ (dn = s.done ++ [t] ∧ r.ended = k ∧ opAt l k = (t, 3, 0) ∧ 1 ≤ t ∧ t ≤ 6)) : KOk l (k + 1) ⟨dn, setF s.of t r, setF s.beg t true, lk⟩ := by
  have hof : ∀ u, u ≠ t → ofL (l.take (k + 1)) u = ofL (l.take k) u := fun u hu => by rw [of_take hk, if_neg (fun e => hu (e.symm.trans ht)), List.append_nil]
  refine ⟨fun u hu => ?_, fun u hu => ?_, fun u hu => ?_, ?_, fun u hu => ?_, fun u hu hnu => ?_, fun u hu => ?_⟩
  · have hu' : setF s.beg t true u = false := hu
    have hne : u ≠ t := fun e => by rw [e, setF_same] at hu'; cases hu'
    rw [setF_other _ _ hne] at hu'
    rw [hof u hne]
    exact h.fresh u hu'
  · show ∀ last : Int → Int, (∀ e ∈ (setF s.of t r u).seen, e.2.2 ≠ u → e.2.2 = last e.2.1) → ((setF s.of t r u).seen, (setF s.of t r u).wrote) = expK u last (ofL (l.take (k + 1)) u)
    by_cases e : u = t
    · subst e; rw [setF_same]; exact hsees
    · rw [setF_other _ _ e, hof u e]
      have hu' : setF s.beg t true u = true := hu
      rw [setF_other _ _ e] at hu'
      exact h.sees u hu'
  · show ∀ e ∈ (setF s.of t r u).seen, e.1 = u
    by_cases e : u = t
    · subst e; rw [setF_same]; exact htx
    · rw [setF_other _ _ e]
      have hu' : setF s.beg t true u = true := hu
      rw [setF_other _ _ e] at hu'
      exact h.txs u hu'
  · rcases hd with ⟨rfl, _⟩ | ⟨rfl, _⟩
    · exact h.once
    · rw [List.nodup_append]
      refine ⟨h.once, by simp, fun a ha b hb => ?_⟩
      rw [List.mem_singleton.1 hb]
      exact fun e => hnd (e ▸ ha)
  · have old : u ∈ s.done → u ≠ t → setF s.beg t true u = true ∧ 1 ≤ u ∧ u ≤ 6 ∧ 0 ≤ (setF s.of t r u).ended ∧ (setF s.of t r u).ended < ((k + 1 : Nat) : Int) ∧ opAt l (setF s.of t r u).ended.toNat = (u, 3, 0) := fun hm hne => by
      obtain ⟨h1, h2, h3, h4, h5, h6⟩ := h.comm u hm
      rw [setF_other _ _ hne, setF_other _ _ hne]
      exact ⟨h1, h2, h3, h4, by omega, h6⟩
    rcases hd with ⟨rfl, _⟩ | ⟨rfl, he, ho, h1, h6⟩
    · exact old hu (fun e => hnd (e ▸ hu))
    · rcases List.mem_append.1 hu with hu | hu
      · exact old hu (fun e => hnd (e ▸ hu))
      · rw [List.mem_singleton.1 hu]
        show setF s.beg t true t = true ∧ 1 ≤ t ∧ t ≤ 6 ∧ 0 ≤ (setF s.of t r t).ended ∧ (setF s.of t r t).ended < ((k + 1 : Nat) : Int) ∧ opAt l (setF s.of t r t).ended.toNat = (t, 3, 0)
        rw [setF_same, setF_same, he]
        exact ⟨rfl, h1, h6, by omega, by omega, by simpa using ho⟩
  · show (setF s.of t r u).ended = -1
    by_cases e : u = t
    · subst e
      rw [setF_same]
      rcases hd with ⟨_, he⟩ | ⟨rfl, _⟩
      · exact he
      · exact absurd (List.mem_append_right _ (List.mem_singleton.2 rfl)) hnu
    · rw [setF_other _ _ e]
      have hu' : setF s.beg t true u = true := hu
      rw [setF_other _ _ e] at hu'
      refine h.open_ u hu' fun hm => hnu ?_
      rcases hd with ⟨rfl, _⟩ | ⟨rfl, _⟩
      · exact hm
      · exact List.mem_append_left _ hm
  · show 0 ≤ (setF s.of t r u).began ∧ (setF s.of t r u).began < ((k + 1 : Nat) : Int)
    by_cases e : u = t
    · subst e; rw [setF_same]; omega
    · rw [setF_other _ _ e]
      have hu' : setF s.beg t true u = true := hu
      rw [setF_other _ _ e] at hu'
      have := h.times u hu'
      omega
end Go.Proofs.Ytmgadiopjofegai
