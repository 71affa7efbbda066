/-
  PROVED HERE: plain facts, with no word of the program: runs in which deals see what was done (chapters 11 to 14: looked at when they end, by what was when they began, with nobody between, with versions) as functions on lists; what is always so of them.
  Conditions: none.
  PROVED HERE: plain facts, with no word of the program: what is always so of a run in which deals see what was done (KindPlain), op by op, of whatever kind, whoever may commit.
  Conditions: none.
-/
import Derived.Test.YtccjognnehoodafDoorMgao
namespace Go.Proofs.YtccjognnehoodafDoor

/-- A deal of a run: when it began, when it ended (-1: it did not), what it saw (deal, item, from), what it wrote. -/
structure Dl where
  began : Int
  ended : Int
  seen : List Op3
  wrote : List Int
/-- How a run stands: who is done, as they ended; each deal; who has begun; what was looked at. -/
structure Kst where
  done : List Int
  of : Int → Dl
  beg : Int → Bool
  looks : List Op3
def kst0 : Kst := ⟨[], fun _ => ⟨0, 0, [], []⟩, fun _ => false, []⟩
/-- Who wrote an item last, of those that ended by a time; below: of those of a lesser number the greatest. -/
def whoK (done : List Int) (of : Int → Dl) (item time below : Int) : Int :=
  done.foldl (fun f t => if (!inB (of t).wrote item || decide (time ≤ (of t).ended)) = true then f else if below = 0 then t else if t < below ∧ f < t then t else f) 0
def readK (t : Int) (r : Dl) (item : Int) : Bool := r.seen.any fun x => x.2.1 == item && x.2.2 != t
def onceK (a b : Dl) : Bool := (decide (b.ended < 0) || decide (a.began < b.ended)) && (decide (a.ended < 0) || decide (b.began < a.ended))
/-- A deal as it is when its next op comes. -/
def nowK (s : Kst) (at_ : Int) (t : Int) : Dl := if s.beg t = true then s.of t else ⟨at_, -1, [], []⟩
/-- What a Read sees. -/
def fromK (kind : Int) (s : Kst) (at_ : Int) (r : Dl) (t item : Int) : Int :=
  if inB r.wrote item = true then t else if kind = 1 then whoK s.done s.of item at_ 0 else if kind = 4 then whoK s.done s.of item at_ t else whoK s.done s.of item r.began 0
/-- Did one that is done since write what it read, or writes? -/
def hitK (kind : Int) (s : Kst) (t : Int) (r : Dl) : Bool :=
  s.done.any fun i => (s.of i).wrote.any fun item => decide (r.began < (s.of i).ended) && (if 1 < kind then inB r.wrote item else readK t r item)
def pastK (s : Kst) (t : Int) (r : Dl) : Bool := s.looks.any fun x => inB r.wrote x.2.1 && (decide (t < x.1) && decide (x.2.2 < t))
def readStep (kind : Int) (s : Kst) (at_ t item : Int) : Kst :=
  { s with of := setF s.of t { nowK s at_ t with seen := (nowK s at_ t).seen ++ [(t, item, fromK kind s at_ (nowK s at_ t) t item)] }, beg := setF s.beg t true,
           looks := if kind = 4 ∧ inB (nowK s at_ t).wrote item = false then s.looks ++ [(t, item, fromK kind s at_ (nowK s at_ t) t item)] else s.looks }
def writeStep (s : Kst) (at_ t item : Int) : Kst := { s with of := setF s.of t { nowK s at_ t with wrote := (nowK s at_ t).wrote ++ [item] }, beg := setF s.beg t true }
def stayStep (s : Kst) (at_ t : Int) : Kst := { s with of := setF s.of t (nowK s at_ t), beg := setF s.beg t true }
def doneStep (s : Kst) (at_ t : Int) : Kst := { s with done := s.done ++ [t], of := setF s.of t { nowK s at_ t with ended := at_ }, beg := setF s.beg t true }
/-- An op comes; okF: may its deal commit? -/
def stepK (kind : Int) (okF : Kst → Int → Dl → Bool) (s : Kst) (at_ : Int) (o : Op3) : Kst :=
  if o.2.1 = 1 then readStep kind s at_ o.1 o.2.2 else if o.2.1 = 2 then writeStep s at_ o.1 o.2.2
  else if o.2.1 = 3 then (if okF s o.1 (nowK s at_ o.1) = true then doneStep s at_ o.1 else stayStep s at_ o.1) else stayStep s at_ o.1
def runK (kind : Int) (okF : Kst → Int → Dl → Bool) (l : List Op3) : Nat → Kst
  | 0 => kst0
  | k + 1 => stepK kind okF (runK kind okF l k) (k : Int) (opAt l k)

/-- What a deal sees if those that were there wrote 'last': itself, where it wrote, else that. -/
def expStep (t : Int) (last : Int → Int) (s : List Op3 × List Int) (o : Op3) : List Op3 × List Int :=
  if o.2.1 = 1 then (s.1 ++ [(t, o.2.2, if inB s.2 o.2.2 = true then t else last o.2.2)], s.2) else if o.2.1 = 2 then (s.1, s.2 ++ [o.2.2]) else s
def expK (t : Int) (last : Int → Int) (own : List Op3) : List Op3 × List Int := own.foldl (expStep t last) ([], [])
theorem expK_snoc (t : Int) (last : Int → Int) (own : List Op3) (o : Op3) : expK t last (own ++ [o]) = expStep t last (expK t last own) o := by
  unfold expK
  rw [List.foldl_append]
  rfl
/-- What is always so, of whatever kind, when the first k ops have come. -/
structure KOk (l : List Op3) (k : Nat) (s : Kst) : Prop where
  fresh : ∀ t, s.beg t = false → ofL (l.take k) t = []
  sees : ∀ t, s.beg t = true → ∀ last : Int → Int, (∀ e ∈ (s.of t).seen, e.2.2 ≠ t → e.2.2 = last e.2.1) → ((s.of t).seen, (s.of t).wrote) = expK t last (ofL (l.take k) t)
  txs : ∀ t, s.beg t = true → ∀ e ∈ (s.of t).seen, e.1 = t
  once : s.done.Nodup
  comm : ∀ t ∈ s.done, s.beg t = true ∧ 1 ≤ t ∧ t ≤ 6 ∧ 0 ≤ (s.of t).ended ∧ (s.of t).ended < k ∧ opAt l (s.of t).ended.toNat = (t, 3, 0)
  open_ : ∀ t, s.beg t = true → t ∉ s.done → (s.of t).ended = -1
  times : ∀ t, s.beg t = true → 0 ≤ (s.of t).began ∧ (s.of t).began < k
theorem kOk0 (l : List Op3) : KOk l 0 kst0 := ⟨fun _ _ => rfl, fun _ h => (by cases h), fun _ h => (by cases h), List.nodup_nil, fun _ h => (by cases h), fun _ h => (by cases h), fun _ h => (by cases h)⟩
theorem of_take {l : List Op3} {k : Nat} (hk : k < l.length) (t : Int) : ofL (l.take (k + 1)) t = ofL (l.take k) t ++ (if (opAt l k).1 = t then [opAt l k] else []) := by
  rw [List.take_succ_eq_append_getElem hk]
  have e : l[k] = opAt l k := by simp [opAt, List.getD, List.getElem?_eq_getElem hk]
  rw [e]
  exact of_snoc _ _ _
/-- The deal itself, as it is when its op comes. -/
theorem KOk.now {l : List Op3} {k : Nat} {s : Kst} (h : KOk l k s) (t : Int) : (∀ last : Int → Int, (∀ e ∈ (nowK s k t).seen, e.2.2 ≠ t → e.2.2 = last e.2.1) → ((nowK s k t).seen, (nowK s k t).wrote) = expK t last (ofL (l.take k) t)) ∧ (∀ e ∈ (nowK s k t).seen, e.1 = t) ∧ (0 ≤ (nowK s k t).began ∧ (nowK s k t).began < (k : Int) + 1) ∧ (t ∉ s.done → (nowK s k t).ended = -1) := by
  unfold nowK
  split
  · rename_i hb
    exact ⟨h.sees t hb, h.txs t hb, by have := h.times t hb; omega, h.open_ t hb⟩
  · rename_i hb
    have hb' : s.beg t = false := by simpa using hb
    refine ⟨fun last _ => ?_, fun e he => (by cases he), by dsimp only; omega, fun _ => rfl⟩
    rw [h.fresh t hb']
    rfl
/-- Whatever becomes of one deal, the others stay. -/
theorem KOk.step {l : List Op3} {k : Nat} {s : Kst} (h : KOk l k s) (hk : k < l.length) (t : Int) (ht : (opAt l k).1 = t) (r : Dl) (dn : List Int) (lk : List Op3) (hnd : t ∉ s.done)
    (hsees : ∀ last : Int → Int, (∀ e ∈ r.seen, e.2.2 ≠ t → e.2.2 = last e.2.1) → (r.seen, r.wrote) = expK t last (ofL (l.take (k + 1)) t)) (htx : ∀ e ∈ r.seen, e.1 = t) (hbeg : 0 ≤ r.began ∧ r.began < (k : Int) + 1)
    (hd : (dn = s.done ∧ r.ended = -1) ∨ (dn = s.done ++ [t] ∧ r.ended = k ∧ opAt l k = (t, 3, 0) ∧ 1 ≤ t ∧ t ≤ 6)) : KOk l (k + 1) ⟨dn, setF s.of t r, setF s.beg t true, lk⟩ := by
  have hof : ∀ u, u ≠ t → ofL (l.take (k + 1)) u = ofL (l.take k) u := fun u hu => by rw [of_take hk, if_neg (fun e => hu (e.symm.trans ht)), List.append_nil]
  refine ⟨fun u hu => ?_, fun u hu => ?_, fun u hu => ?_, ?_, fun u hu => ?_, fun u hu hnu => ?_, fun u hu => ?_⟩
  · have hu' : setF s.beg t true u = false := hu
    have hne : u ≠ t := fun e => by rw [e, setF_same] at hu'; cases hu'
    rw [setF_other _ _ hne] at hu'
    rw [hof u hne]
    exact h.fresh u hu'
  · show ∀ last : Int → Int, (∀ e ∈ (setF s.of t r u).seen, e.2.2 ≠ u → e.2.2 = last e.2.1) → ((setF s.of t r u).seen, (setF s.of t r u).wrote) = expK u last (ofL (l.take (k + 1)) u)
    by_cases e : u = t
    · subst e; rw [setF_same]; exact hsees
    · rw [setF_other _ _ e, hof u e]
      have hu' : setF s.beg t true u = true := hu
      rw [setF_other _ _ e] at hu'
      exact h.sees u hu'
  · show ∀ e ∈ (setF s.of t r u).seen, e.1 = u
    by_cases e : u = t
    · subst e; rw [setF_same]; exact htx
    · rw [setF_other _ _ e]
      have hu' : setF s.beg t true u = true := hu
      rw [setF_other _ _ e] at hu'
      exact h.txs u hu'
  · rcases hd with ⟨rfl, _⟩ | ⟨rfl, _⟩
    · exact h.once
    · rw [List.nodup_append]
      refine ⟨h.once, by simp, fun a ha b hb => ?_⟩
      rw [List.mem_singleton.1 hb]
      exact fun e => hnd (e ▸ ha)
  · have old : u ∈ s.done → u ≠ t → setF s.beg t true u = true ∧ 1 ≤ u ∧ u ≤ 6 ∧ 0 ≤ (setF s.of t r u).ended ∧ (setF s.of t r u).ended < ((k + 1 : Nat) : Int) ∧ opAt l (setF s.of t r u).ended.toNat = (u, 3, 0) := fun hm hne => by
      obtain ⟨h1, h2, h3, h4, h5, h6⟩ := h.comm u hm
      rw [setF_other _ _ hne, setF_other _ _ hne]
      exact ⟨h1, h2, h3, h4, by omega, h6⟩
    rcases hd with ⟨rfl, _⟩ | ⟨rfl, he, ho, h1, h6⟩
    · exact old hu (fun e => hnd (e ▸ hu))
    · rcases List.mem_append.1 hu with hu | hu
      · exact old hu (fun e => hnd (e ▸ hu))
      · rw [List.mem_singleton.1 hu]
        show setF s.beg t true t = true ∧ 1 ≤ t ∧ t ≤ 6 ∧ 0 ≤ (setF s.of t r t).ended ∧ (setF s.of t r t).ended < ((k + 1 : Nat) : Int) ∧ opAt l (setF s.of t r t).ended.toNat = (t, 3, 0)
        rw [setF_same, setF_same, he]
        exact ⟨rfl, h1, h6, by omega, by omega, by simpa using ho⟩
  · show (setF s.of t r u).ended = -1
    by_cases e : u = t
    · subst e
      rw [setF_same]
      rcases hd with ⟨_, he⟩ | ⟨rfl, _⟩
      · exact he
      · exact absurd (List.mem_append_right _ (List.mem_singleton.2 rfl)) hnu
    · rw [setF_other _ _ e]
      have hu' : setF s.beg t true u = true := hu
      rw [setF_other _ _ e] at hu'
      refine h.open_ u hu' fun hm => hnu ?_
      rcases hd with ⟨rfl, _⟩ | ⟨rfl, _⟩
      · exact hm
      · exact List.mem_append_left _ hm
  · show 0 ≤ (setF s.of t r u).began ∧ (setF s.of t r u).began < ((k + 1 : Nat) : Int)
    by_cases e : u = t
    · subst e; rw [setF_same]; omega
    · rw [setF_other _ _ e]
      have hu' : setF s.beg t true u = true := hu
      rw [setF_other _ _ e] at hu'
      have := h.times u hu'
      omega
end Go.Proofs.YtccjognnehoodafDoor

namespace Go.Proofs.YtccjognnehoodafDoor

theorem opAt_at {d : List Op3} {i : Nat} (h : i < d.length) : opAt d i = d[i] := by simp [opAt, List.getD, List.getElem?_eq_getElem h]
/-- Who is done does nothing more. -/
theorem KOk.free {l : List Op3} {k : Nat} {s : Kst} (h : KOk l k s) (hc : Calm l) (hk : k < l.length) : (opAt l k).1 ∉ s.done := fun hm => by
  obtain ⟨_, _, _, h4, h5, h6⟩ := h.comm _ hm
  have hij : (s.of (opAt l k).1).ended.toNat < k := by omega
  have h1 := List.pairwise_iff_getElem.1 hc _ k (by omega) hk hij
  rw [← opAt_at (by omega), ← opAt_at hk] at h1
  refine h1 ?_
  rw [h6]
  exact ⟨rfl, rfl⟩
theorem exp_read (t : Int) (last : Int → Int) (own : List Op3) (o : Op3) (ho : o.2.1 = 1) : expK t last (own ++ [o]) = ((expK t last own).1 ++ [(t, o.2.2, if inB (expK t last own).2 o.2.2 = true then t else last o.2.2)], (expK t last own).2) := by
  rw [expK_snoc]; unfold expStep; rw [if_pos ho]
theorem exp_write (t : Int) (last : Int → Int) (own : List Op3) (o : Op3) (ho : o.2.1 = 2) : expK t last (own ++ [o]) = ((expK t last own).1, (expK t last own).2 ++ [o.2.2]) := by
  rw [expK_snoc]; unfold expStep; rw [if_neg (by omega), if_pos ho]
theorem exp_end (t : Int) (last : Int → Int) (own : List Op3) (o : Op3) (h1 : o.2.1 ≠ 1) (h2 : o.2.1 ≠ 2) : expK t last (own ++ [o]) = expK t last own := by
  rw [expK_snoc]; unfold expStep; rw [if_neg h1, if_neg h2]
/-- A step keeps it. -/
theorem KOk.next {kind : Int} {okF : Kst → Int → Dl → Bool} {l : List Op3} {k : Nat} {s : Kst} (h : KOk l k s) (hc : Calm l) (hop : ∀ o ∈ l, isOpB o = true) (hk : k < l.length)
    (hfrom : ∀ t item, fromK kind s k (nowK s k t) t item = t → t ∉ s.done → 1 ≤ t → inB (nowK s k t).wrote item = true) : KOk l (k + 1) (stepK kind okF s k (opAt l k)) := by
  have hnd := h.free hc hk
  have hmem : opAt l k ∈ l := by rw [opAt_at hk]; exact List.getElem_mem hk
  have hisop := hop _ hmem
  have htx : 1 ≤ (opAt l k).1 ∧ (opAt l k).1 ≤ 6 := by
    have := hisop
    unfold isOpB at this
    simp at this
    omega
  obtain ⟨n1, n2, n3, n4⟩ := h.now (opAt l k).1
  have hend := n4 hnd
  have hown : ofL (l.take (k + 1)) (opAt l k).1 = ofL (l.take k) (opAt l k).1 ++ [opAt l k] := by rw [of_take hk, if_pos rfl]
  unfold stepK
  split
  · rename_i ho
    refine h.step hk _ rfl _ _ _ hnd (fun last hl => ?_) (fun e he => ?_) n3 (Or.inl ⟨rfl, hend⟩)
    · have hl' := n1 last fun e he hne => hl e (List.mem_append_left _ he) hne
      rw [hown, exp_read _ _ _ _ ho, ← hl']
      dsimp only
      have hlast := hl _ (List.mem_append_right _ (List.mem_singleton.2 rfl))
      dsimp only at hlast
      by_cases hw : inB (nowK s k (opAt l k).1).wrote (opAt l k).2.2 = true
      · rw [if_pos hw]
        unfold fromK
        rw [if_pos hw]
      · rw [if_neg hw]
        have hne : fromK kind s k (nowK s k (opAt l k).1) (opAt l k).1 (opAt l k).2.2 ≠ (opAt l k).1 := fun e => hw (hfrom _ _ e hnd htx.1)
        rw [hlast hne]
    · rcases List.mem_append.1 he with he | he
      · exact n2 e he
      · rw [List.mem_singleton.1 he]
  · rename_i ho1
    split
    · rename_i ho
      refine h.step hk _ rfl _ _ _ hnd (fun last hl => ?_) n2 n3 (Or.inl ⟨rfl, hend⟩)
      rw [hown, exp_write _ _ _ _ ho, ← n1 last hl]
    · rename_i ho2
      have hstay : ∀ last : Int → Int, (∀ e ∈ (nowK s k (opAt l k).1).seen, e.2.2 ≠ (opAt l k).1 → e.2.2 = last e.2.1) → ((nowK s k (opAt l k).1).seen, (nowK s k (opAt l k).1).wrote) = expK (opAt l k).1 last (ofL (l.take (k + 1)) (opAt l k).1) := fun last hl => by
        rw [hown, exp_end _ _ _ _ ho1 ho2]
        exact n1 last hl
      split
      · rename_i ho3
        split
        · refine h.step hk _ rfl _ _ _ hnd hstay n2 n3 (Or.inr ⟨rfl, rfl, ?_, htx⟩)
          rcases isOp_kinds hisop with e | e | ⟨_, e⟩
          · omega
          · omega
          · exact Prod.ext rfl (Prod.ext ho3 e)
        · exact h.step hk _ rfl _ _ _ hnd hstay n2 n3 (Or.inl ⟨rfl, hend⟩)
      · exact h.step hk _ rfl _ _ _ hnd hstay n2 n3 (Or.inl ⟨rfl, hend⟩)
/-- Who wrote last is one that is done, or nobody. -/
theorem who_mem (done : List Int) (of : Int → Dl) (item time below : Int) : whoK done of item time below = 0 ∨ whoK done of item time below ∈ done := by
  unfold whoK
  suffices H : ∀ (d : List Int) (f : Int), (∀ x ∈ d, x ∈ done) → (f = 0 ∨ f ∈ done) → (d.foldl (fun f t => if (!inB (of t).wrote item || decide (time ≤ (of t).ended)) = true then f else if below = 0 then t else if t < below ∧ f < t then t else f) f = 0 ∨ d.foldl (fun f t => if (!inB (of t).wrote item || decide (time ≤ (of t).ended)) = true then f else if below = 0 then t else if t < below ∧ f < t then t else f) f ∈ done) from H done 0 (fun _ h => h) (Or.inl rfl)
  intro d
  induction d with
  | nil => exact fun f _ h => h
  | cons a d ih =>
    intro f hd hf
    rw [List.foldl_cons]
    refine ih _ (fun x hx => hd x (List.mem_cons_of_mem _ hx)) ?_
    split
    · exact hf
    · split
      · exact Or.inr (hd a (List.mem_cons_self ..))
      · split
        · exact Or.inr (hd a (List.mem_cons_self ..))
        · exact hf
theorem from_own {kind : Int} {s : Kst} {k : Int} {r : Dl} {t item : Int} (h : fromK kind s k r t item = t) (hnd : t ∉ s.done) (ht : 1 ≤ t) : inB r.wrote item = true := by
  unfold fromK at h
  split at h
  · assumption
  · exfalso
    have H : ∀ a b, whoK s.done s.of item a b ≠ t := fun a b e => by
      rcases who_mem s.done s.of item a b with e' | e'
      · omega
      · exact hnd (e ▸ e')
    split at h
    · exact H _ _ h
    · split at h
      · exact H _ _ h
      · exact H _ _ h
theorem run_kOk (kind : Int) (okF : Kst → Int → Dl → Bool) {l : List Op3} (h : (chk l).2 = 0) : ∀ k, k ≤ l.length → KOk l k (runK kind okF l k) := by
  obtain ⟨_, h2, h3⟩ := (chk_iff l).1 h
  intro k
  induction k with
  | zero => exact fun _ => kOk0 l
  | succ k ih => exact fun hk => (ih (by omega)).next h3 h2 (by omega) fun t item e1 e2 e3 => from_own e1 e2 e3
end Go.Proofs.YtccjognnehoodafDoor
