/-
  PROVED HERE: plain facts, with no word of the program: runs in which deals see what was done (chapters 11 to 14: looked at when they end, by what was when they began, with nobody between, with versions) as functions on lists; what is always so of them.
  Conditions: none.
  PROVED HERE: plain facts, with no word of the program: what is always so of a run in which deals see what was done (KindPlain), op by op, of whatever kind, whoever may commit.
  Conditions: none.
  PROVED HERE: plain facts, with no word of the program: of deals that are looked at when they end (chapter 11, as KindPlain has it) each that is done saw what those wrote that were done ahead of it.
  Conditions: none.
  PROVED HERE: plain facts, with no word of the program: of a run in which deals see what was done (KindPlain): what each wrote, who only reads is done where that is no cause to abort it, who is done asked to commit, and there are no more than six.
  Conditions: none.
-/
import Derived.Test.YtccjognnehoodahGreatMgag
namespace Go.Proofs.YtccjognnehoodahGreat

/-- A deal of a run: when it began, when it ended (-1: it did not), what it saw (deal, item, from), what it wrote. -/
structure Dl where
  began : Int
  ended : Int
  seen : List Op3
  wrote : List Int
/-- How a run stands: who is done, as they ended; each deal; who has begun; what was looked at. -/
structure Kst where
  done : List Int
  of : Int → Dl
  beg : Int → Bool
  looks : List Op3
def kst0 : Kst := ⟨[], fun _ => ⟨0, 0, [], []⟩, fun _ => false, []⟩
/-- Who wrote an item last, of those that ended by a time; below: of those of a lesser number the greatest. -/
def whoK (done : List Int) (of : Int → Dl) (item time below : Int) : Int :=
  done.foldl (fun f t => if (!inB (of t).wrote item || decide (time ≤ (of t).ended)) = true then f else if below = 0 then t else if t < below ∧ f < t then t else f) 0
def readK (t : Int) (r : Dl) (item : Int) : Bool := r.seen.any fun x => x.2.1 == item && x.2.2 != t
def onceK (a b : Dl) : Bool := (decide (b.ended < 0) || decide (a.began < b.ended)) && (decide (a.ended < 0) || decide (b.began < a.ended))
/-- A deal as it is when its next op comes. -/
def nowK (s : Kst) (at_ : Int) (t : Int) : Dl := if s.beg t = true then s.of t else ⟨at_, -1, [], []⟩
/-- What a Read sees. -/
def fromK (kind : Int) (s : Kst) (at_ : Int) (r : Dl) (t item : Int) : Int :=
  if inB r.wrote item = true then t else if kind = 1 then whoK s.done s.of item at_ 0 else if kind = 4 then whoK s.done s.of item at_ t else whoK s.done s.of item r.began 0
/-- Did one that is done since write what it read, or writes? -/
def hitK (kind : Int) (s : Kst) (t : Int) (r : Dl) : Bool :=
  s.done.any fun i => (s.of i).wrote.any fun item => decide (r.began < (s.of i).ended) && (if 1 < kind then inB r.wrote item else readK t r item)
def pastK (s : Kst) (t : Int) (r : Dl) : Bool := s.looks.any fun x => inB r.wrote x.2.1 && (decide (t < x.1) && decide (x.2.2 < t))
def readStep (kind : Int) (s : Kst) (at_ t item : Int) : Kst :=
  { s with of := setF s.of t { nowK s at_ t with seen := (nowK s at_ t).seen ++ [(t, item, fromK kind s at_ (nowK s at_ t) t item)] }, beg := setF s.beg t true,
           looks := if kind = 4 ∧ inB (nowK s at_ t).wrote item = false then s.looks ++ [(t, item, fromK kind s at_ (nowK s at_ t) t item)] else s.looks }
def writeStep (s : Kst) (at_ t item : Int) : Kst := { s with of := setF s.of t { nowK s at_ t with wrote := (nowK s at_ t).wrote ++ [item] }, beg := setF s.beg t true }
def stayStep (s : Kst) (at_ t : Int) : Kst := { s with of := setF s.of t (nowK s at_ t), beg := setF s.beg t true }
def doneStep (s : Kst) (at_ t : Int) : Kst := { s with done := s.done ++ [t], of := setF s.of t { nowK s at_ t with ended := at_ }, beg := setF s.beg t true }
/-- An op comes; okF: may its deal commit? -/
def stepK (kind : Int) (okF : Kst → Int → Dl → Bool) (s : Kst) (at_ : Int) (o : Op3) : Kst :=
  if o.2.1 = 1 then readStep kind s at_ o.1 o.2.2 else if o.2.1 = 2 then writeStep s at_ o.1 o.2.2
  else if o.2.1 = 3 then (if okF s o.1 (nowK s at_ o.1) = true then doneStep s at_ o.1 else stayStep s at_ o.1) else stayStep s at_ o.1
def runK (kind : Int) (okF : Kst → Int → Dl → Bool) (l : List Op3) : Nat → Kst
  | 0 => kst0
  | k + 1 => stepK kind okF (runK kind okF l k) (k : Int) (opAt l k)

/-- What a deal sees if those that were there wrote 'last': itself, where it wrote, else that. -/
def expStep (t : Int) (last : Int → Int) (s : List Op3 × List Int) (o : Op3) : List Op3 × List Int :=
  if o.2.1 = 1 then (s.1 ++ [(t, o.2.2, if inB s.2 o.2.2 = true then t else last o.2.2)], s.2) else if o.2.1 = 2 then (s.1, s.2 ++ [o.2.2]) else s
def expK (t : Int) (last : Int → Int) (own : List Op3) : List Op3 × List Int := own.foldl (expStep t last) ([], [])
theorem expK_snoc (t : Int) (last : Int → Int) (own : List Op3) (o : Op3) : expK t last (own ++ [o]) = expStep t last (expK t last own) o := by
  unfold expK
  rw [List.foldl_append]
  rfl
/-- What is always so, of whatever kind, when the first k ops have come. -/
structure KOk (l : List Op3) (k : Nat) (s : Kst) : Prop where
  fresh : ∀ t, s.beg t = false → ofL (l.take k) t = []
  sees : ∀ t, s.beg t = true → ∀ last : Int → Int, (∀ e ∈ (s.of t).seen, e.2.2 ≠ t → e.2.2 = last e.2.1) → ((s.of t).seen, (s.of t).wrote) = expK t last (ofL (l.take k) t)
  txs : ∀ t, s.beg t = true → ∀ e ∈ (s.of t).seen, e.1 = t
  once : s.done.Nodup
  comm : ∀ t ∈ s.done, s.beg t = true ∧ 1 ≤ t ∧ t ≤ 6 ∧ 0 ≤ (s.of t).ended ∧ (s.of t).ended < k ∧ opAt l (s.of t).ended.toNat = (t, 3, 0)
  open_ : ∀ t, s.beg t = true → t ∉ s.done → (s.of t).ended = -1
  times : ∀ t, s.beg t = true → 0 ≤ (s.of t).began ∧ (s.of t).began < k
theorem kOk0 (l : List Op3) : KOk l 0 kst0 := ⟨fun _ _ => rfl, fun _ h => (by cases h), fun _ h => (by cases h), List.nodup_nil, fun _ h => (by cases h), fun _ h => (by cases h), fun _ h => (by cases h)⟩
theorem of_take {l : List Op3} {k : Nat} (hk : k < l.length) (t : Int) : ofL (l.take (k + 1)) t = ofL (l.take k) t ++ (if (opAt l k).1 = t then [opAt l k] else []) := by
  rw [List.take_succ_eq_append_getElem hk]
  have e : l[k] = opAt l k := by simp [opAt, List.getD, List.getElem?_eq_getElem hk]
  rw [e]
  exact of_snoc _ _ _
/-- The deal itself, as it is when its op comes. -/
theorem KOk.now {l : List Op3} {k : Nat} {s : Kst} (h : KOk l k s) (t : Int) : (∀ last : Int → Int, (∀ e ∈ (nowK s k t).seen, e.2.2 ≠ t → e.2.2 = last e.2.1) → ((nowK s k t).seen, (nowK s k t).wrote) = expK t last (ofL (l.take k) t)) ∧ (∀ e ∈ (nowK s k t).seen, e.1 = t) ∧ (0 ≤ (nowK s k t).began ∧ (nowK s k t).began < (k : Int) + 1) ∧ (t ∉ s.done → (nowK s k t).ended = -1) := by
  unfold nowK
  split
  · rename_i hb
    exact ⟨h.sees t hb, h.txs t hb, by have := h.times t hb; omega, h.open_ t hb⟩
  · rename_i hb
    have hb' : s.beg t = false := by simpa using hb
    refine ⟨fun last _ => ?_, fun e he => (by cases he), by dsimp only; omega, fun _ => rfl⟩
    rw [h.fresh t hb']
    rfl
/-- Whatever becomes of one deal, the others stay. -/
theorem KOk.step {l : List Op3} {k : Nat} {s : Kst} (h : KOk l k s) (hk : k < l.length) (t : Int) (ht : (opAt l k).1 = t) (r : Dl) (dn : List Int) (lk : List Op3) (hnd : t ∉ s.done)
    (hsees : ∀ last : Int → Int, (∀ e ∈ r.seen, e.2.2 ≠ t → e.2.2 = last e.2.1) → (r.seen, r.wrote) = expK t last (ofL (l.take (k + 1)) t)) (htx : ∀ e ∈ r.seen, e.1 = t) (hbeg : 0 ≤ r.began ∧ r.began < (k : Int) + 1)
    (hd : (dn = s.done ∧ r.ended = -1) ∨ (dn = s.done ++ [t] ∧ r.ended = k ∧ opAt l k = (t, 3, 0) ∧ 1 ≤ t ∧ t ≤ 6)) : KOk l (k + 1) ⟨dn, setF s.of t r, setF s.beg t true, lk⟩ := by
  have hof : ∀ u, u ≠ t → ofL (l.take (k + 1)) u = ofL (l.take k) u := fun u hu => by rw [of_take hk, if_neg (fun e => hu (e.symm.trans ht)), List.append_nil]
  refine ⟨fun u hu => ?_, fun u hu => ?_, fun u hu => ?_, ?_, fun u hu => ?_, fun u hu hnu => ?_, fun u hu => ?_⟩
  · have hu' : setF s.beg t true u = false := hu
    have hne : u ≠ t := fun e => by rw [e, setF_same] at hu'; cases hu'
    rw [setF_other _ _ hne] at hu'
    rw [hof u hne]
    exact h.fresh u hu'
  · show ∀ last : Int → Int, (∀ e ∈ (setF s.of t r u).seen, e.2.2 ≠ u → e.2.2 = last e.2.1) → ((setF s.of t r u).seen, (setF s.of t r u).wrote) = expK u last (ofL (l.take (k + 1)) u)
    by_cases e : u = t
    · subst e; rw [setF_same]; exact hsees
    · rw [setF_other _ _ e, hof u e]
      have hu' : setF s.beg t true u = true := hu
      rw [setF_other _ _ e] at hu'
      exact h.sees u hu'
  · show ∀ e ∈ (setF s.of t r u).seen, e.1 = u
    by_cases e : u = t
    · subst e; rw [setF_same]; exact htx
    · rw [setF_other _ _ e]
      have hu' : setF s.beg t true u = true := hu
      rw [setF_other _ _ e] at hu'
      exact h.txs u hu'
  · rcases hd with ⟨rfl, _⟩ | ⟨rfl, _⟩
    · exact h.once
    · rw [List.nodup_append]
      refine ⟨h.once, by simp, fun a ha b hb => ?_⟩
      rw [List.mem_singleton.1 hb]
      exact fun e => hnd (e ▸ ha)
  · have old : u ∈ s.done → u ≠ t → setF s.beg t true u = true ∧ 1 ≤ u ∧ u ≤ 6 ∧ 0 ≤ (setF s.of t r u).ended ∧ (setF s.of t r u).ended < ((k + 1 : Nat) : Int) ∧ opAt l (setF s.of t r u).ended.toNat = (u, 3, 0) := fun hm hne => by
      obtain ⟨h1, h2, h3, h4, h5, h6⟩ := h.comm u hm
      rw [setF_other _ _ hne, setF_other _ _ hne]
      exact ⟨h1, h2, h3, h4, by omega, h6⟩
    rcases hd with ⟨rfl, _⟩ | ⟨rfl, he, ho, h1, h6⟩
    · exact old hu (fun e => hnd (e ▸ hu))
    · rcases List.mem_append.1 hu with hu | hu
      · exact old hu (fun e => hnd (e ▸ hu))
      · rw [List.mem_singleton.1 hu]
        show setF s.beg t true t = true ∧ 1 ≤ t ∧ t ≤ 6 ∧ 0 ≤ (setF s.of t r t).ended ∧ (setF s.of t r t).ended < ((k + 1 : Nat) : Int) ∧ opAt l (setF s.of t r t).ended.toNat = (t, 3, 0)
        rw [setF_same, setF_same, he]
        exact ⟨rfl, h1, h6, by omega, by omega, by simpa using ho⟩
  · show (setF s.of t r u).ended = -1
    by_cases e : u = t
    · subst e
      rw [setF_same]
      rcases hd with ⟨_, he⟩ | ⟨rfl, _⟩
      · exact he
      · exact absurd (List.mem_append_right _ (List.mem_singleton.2 rfl)) hnu
    · rw [setF_other _ _ e]
      have hu' : setF s.beg t true u = true := hu
      rw [setF_other _ _ e] at hu'
      refine h.open_ u hu' fun hm => hnu ?_
      rcases hd with ⟨rfl, _⟩ | ⟨rfl, _⟩
      · exact hm
      · exact List.mem_append_left _ hm
  · show 0 ≤ (setF s.of t r u).began ∧ (setF s.of t r u).began < ((k + 1 : Nat) : Int)
    by_cases e : u = t
    · subst e; rw [setF_same]; omega
    · rw [setF_other _ _ e]
      have hu' : setF s.beg t true u = true := hu
      rw [setF_other _ _ e] at hu'
      have := h.times u hu'
      omega
end Go.Proofs.YtccjognnehoodahGreat

namespace Go.Proofs.YtccjognnehoodahGreat

theorem opAt_at {d : List Op3} {i : Nat} (h : i < d.length) : opAt d i = d[i] := by simp [opAt, List.getD, List.getElem?_eq_getElem h]
/-- Who is done does nothing more. -/
theorem KOk.free {l : List Op3} {k : Nat} {s : Kst} (h : KOk l k s) (hc : Calm l) (hk : k < l.length) : (opAt l k).1 ∉ s.done := fun hm => by
  obtain ⟨_, _, _, h4, h5, h6⟩ := h.comm _ hm
  have hij : (s.of (opAt l k).1).ended.toNat < k := by omega
  have h1 := List.pairwise_iff_getElem.1 hc _ k (by omega) hk hij
  rw [← opAt_at (by omega), ← opAt_at hk] at h1
  refine h1 ?_
  rw [h6]
  exact ⟨rfl, rfl⟩
theorem exp_read (t : Int) (last : Int → Int) (own : List Op3) (o : Op3) (ho : o.2.1 = 1) : expK t last (own ++ [o]) = ((expK t last own).1 ++ [(t, o.2.2, if inB (expK t last own).2 o.2.2 = true then t else last o.2.2)], (expK t last own).2) := by
  rw [expK_snoc]; unfold expStep; rw [if_pos ho]
theorem exp_write (t : Int) (last : Int → Int) (own : List Op3) (o : Op3) (ho : o.2.1 = 2) : expK t last (own ++ [o]) = ((expK t last own).1, (expK t last own).2 ++ [o.2.2]) := by
  rw [expK_snoc]; unfold expStep; rw [if_neg (by omega), if_pos ho]
theorem exp_end (t : Int) (last : Int → Int) (own : List Op3) (o : Op3) (h1 : o.2.1 ≠ 1) (h2 : o.2.1 ≠ 2) : expK t last (own ++ [o]) = expK t last own := by
  rw [expK_snoc]; unfold expStep; rw [if_neg h1, if_neg h2]
/-- A step keeps it. -/
theorem KOk.next {kind : Int} {okF : Kst → Int → Dl → Bool} {l : List Op3} {k : Nat} {s : Kst} (h : KOk l k s) (hc : Calm l) (hop : ∀ o ∈ l, isOpB o = true) (hk : k < l.length)
    (hfrom : ∀ t item, fromK kind s k (nowK s k t) t item = t → t ∉ s.done → 1 ≤ t → inB (nowK s k t).wrote item = true) : KOk l (k + 1) (stepK kind okF s k (opAt l k)) := by
  have hnd := h.free hc hk
  have hmem : opAt l k ∈ l := by rw [opAt_at hk]; exact List.getElem_mem hk
  have hisop := hop _ hmem
  have htx : 1 ≤ (opAt l k).1 ∧ (opAt l k).1 ≤ 6 := by
    have := hisop
    unfold isOpB at this
    simp at this
    omega
  obtain ⟨n1, n2, n3, n4⟩ := h.now (opAt l k).1
  have hend := n4 hnd
  have hown : ofL (l.take (k + 1)) (opAt l k).1 = ofL (l.take k) (opAt l k).1 ++ [opAt l k] := by rw [of_take hk, if_pos rfl]
  unfold stepK
  split
  · rename_i ho
    refine h.step hk _ rfl _ _ _ hnd (fun last hl => ?_) (fun e he => ?_) n3 (Or.inl ⟨rfl, hend⟩)
    · have hl' := n1 last fun e he hne => hl e (List.mem_append_left _ he) hne
      rw [hown, exp_read _ _ _ _ ho, ← hl']
      dsimp only
      have hlast := hl _ (List.mem_append_right _ (List.mem_singleton.2 rfl))
      dsimp only at hlast
      by_cases hw : inB (nowK s k (opAt l k).1).wrote (opAt l k).2.2 = true
      · rw [if_pos hw]
        unfold fromK
        rw [if_pos hw]
      · rw [if_neg hw]
        have hne : fromK kind s k (nowK s k (opAt l k).1) (opAt l k).1 (opAt l k).2.2 ≠ (opAt l k).1 := fun e => hw (hfrom _ _ e hnd htx.1)
        rw [hlast hne]
    · rcases List.mem_append.1 he with he | he
      · exact n2 e he
      · rw [List.mem_singleton.1 he]
  · rename_i ho1
    split
    · rename_i ho
      refine h.step hk _ rfl _ _ _ hnd (fun last hl => ?_) n2 n3 (Or.inl ⟨rfl, hend⟩)
      rw [hown, exp_write _ _ _ _ ho, ← n1 last hl]
    · rename_i ho2
      have hstay : ∀ last : Int → Int, (∀ e ∈ (nowK s k (opAt l k).1).seen, e.2.2 ≠ (opAt l k).1 → e.2.2 = last e.2.1) → ((nowK s k (opAt l k).1).seen, (nowK s k (opAt l k).1).wrote) = expK (opAt l k).1 last (ofL (l.take (k + 1)) (opAt l k).1) := fun last hl => by
        rw [hown, exp_end _ _ _ _ ho1 ho2]
        exact n1 last hl
      split
      · rename_i ho3
        split
        · refine h.step hk _ rfl _ _ _ hnd hstay n2 n3 (Or.inr ⟨rfl, rfl, ?_, htx⟩)
          rcases isOp_kinds hisop with e | e | ⟨_, e⟩
          · omega
          · omega
          · exact Prod.ext rfl (Prod.ext ho3 e)
        · exact h.step hk _ rfl _ _ _ hnd hstay n2 n3 (Or.inl ⟨rfl, hend⟩)
      · exact h.step hk _ rfl _ _ _ hnd hstay n2 n3 (Or.inl ⟨rfl, hend⟩)
/-- Who wrote last is one that is done, or nobody. -/
theorem who_mem (done : List Int) (of : Int → Dl) (item time below : Int) : whoK done of item time below = 0 ∨ whoK done of item time below ∈ done := by
  unfold whoK
  suffices H : ∀ (d : List Int) (f : Int), (∀ x ∈ d, x ∈ done) → (f = 0 ∨ f ∈ done) → (d.foldl (fun f t => if (!inB (of t).wrote item || decide (time ≤ (of t).ended)) = true then f else if below = 0 then t else if t < below ∧ f < t then t else f) f = 0 ∨ d.foldl (fun f t => if (!inB (of t).wrote item || decide (time ≤ (of t).ended)) = true then f else if below = 0 then t else if t < below ∧ f < t then t else f) f ∈ done) from H done 0 (fun _ h => h) (Or.inl rfl)
  intro d
  induction d with
  | nil => exact fun f _ h => h
  | cons a d ih =>
    intro f hd hf
    rw [List.foldl_cons]
    refine ih _ (fun x hx => hd x (List.mem_cons_of_mem _ hx)) ?_
    split
    · exact hf
    · split
      · exact Or.inr (hd a (List.mem_cons_self ..))
      · split
        · exact Or.inr (hd a (List.mem_cons_self ..))
        · exact hf
theorem from_own {kind : Int} {s : Kst} {k : Int} {r : Dl} {t item : Int} (h : fromK kind s k r t item = t) (hnd : t ∉ s.done) (ht : 1 ≤ t) : inB r.wrote item = true := by
  unfold fromK at h
  split at h
  · assumption
  · exfalso
    have H : ∀ a b, whoK s.done s.of item a b ≠ t := fun a b e => by
      rcases who_mem s.done s.of item a b with e' | e'
      · omega
      · exact hnd (e ▸ e')
    split at h
    · exact H _ _ h
    · split at h
      · exact H _ _ h
      · exact H _ _ h
theorem run_kOk (kind : Int) (okF : Kst → Int → Dl → Bool) {l : List Op3} (h : (chk l).2 = 0) : ∀ k, k ≤ l.length → KOk l k (runK kind okF l k) := by
  obtain ⟨_, h2, h3⟩ := (chk_iff l).1 h
  intro k
  induction k with
  | zero => exact fun _ => kOk0 l
  | succ k ih => exact fun hk => (ih (by omega)).next h3 h2 (by omega) fun t item e1 e2 e3 => from_own e1 e2 e3
end Go.Proofs.YtccjognnehoodahGreat

namespace Go.Proofs.YtccjognnehoodahGreat

/-- Who of these wrote an item last. -/
def lastK (of : Int → Dl) (ds : List Int) (item : Int) : Int := ds.foldl (fun f t => if inB (of t).wrote item = true then t else f) 0
theorem lastK_snoc (of : Int → Dl) (ds : List Int) (t item : Int) : lastK of (ds ++ [t]) item = if inB (of t).wrote item = true then t else lastK of ds item := by
  unfold lastK
  rw [List.foldl_append]
  rfl
theorem foldl_congr' {α β : Type} {f g : β → α → β} : ∀ (l : List α) (b : β), (∀ b, ∀ x ∈ l, f b x = g b x) → l.foldl f b = l.foldl g b := by
  intro l
  induction l with
  | nil => intros; rfl
  | cons a l ih =>
    intro b h
    rw [List.foldl_cons, List.foldl_cons, h b a (List.mem_cons_self ..)]
    exact ih _ fun b x hx => h b x (List.mem_cons_of_mem _ hx)
theorem lastK_congr {of of' : Int → Dl} {ds : List Int} (h : ∀ t ∈ ds, of t = of' t) (item : Int) : lastK of ds item = lastK of' ds item := by
  unfold lastK
  exact foldl_congr' _ _ fun b x hx => by rw [h x hx]
theorem lastK_set {of : Int → Dl} {ds : List Int} {t : Int} (h : t ∉ ds) (r : Dl) (item : Int) : lastK (setF of t r) ds item = lastK of ds item :=
  lastK_congr (of := setF of t r) (of' := of) (fun _ hu => setF_other _ _ fun e => h (e ▸ hu)) item
theorem who_last {of : Int → Dl} {ds : List Int} {time : Int} (h : ∀ t ∈ ds, (of t).ended < time) (item : Int) : whoK ds of item time 0 = lastK of ds item := by
  unfold whoK lastK
  refine foldl_congr' _ _ fun b x hx => ?_
  have := h x hx
  have e : decide (time ≤ (of x).ended) = false := by simp; omega
  rw [e, Bool.or_false]
  cases inB (of x).wrote item <;> simp
/-- Whose reads an end has made old. -/
def okV (s : Kst) (t : Int) (r : Dl) : Bool := !hitK 1 s t r
/-- What is always so of such a run. -/
structure VOkK (s : Kst) : Prop where
  done : ∀ p t q, s.done = p ++ t :: q → ∀ e ∈ (s.of t).seen, e.2.2 ≠ t → e.2.2 = lastK s.of p e.2.1
  open_ : ∀ t, s.beg t = true → t ∉ s.done → ∀ e ∈ (s.of t).seen, e.2.2 ≠ t → e.2.2 = lastK s.of s.done e.2.1 ∨ ∃ i ∈ s.done, inB (s.of i).wrote e.2.1 = true ∧ (s.of t).began < (s.of i).ended
theorem vOk0 : VOkK kst0 := ⟨fun p t q h => (by cases p <;> cases h), fun _ h => (by cases h)⟩
theorem VOkK.stay {s : Kst} (h : VOkK s) {t : Int} (hnd : t ∉ s.done) (r : Dl) (lk : List Op3)
    (hr : ∀ e ∈ r.seen, e.2.2 ≠ t → e.2.2 = lastK s.of s.done e.2.1 ∨ ∃ i ∈ s.done, inB (s.of i).wrote e.2.1 = true ∧ r.began < (s.of i).ended) : VOkK ⟨s.done, setF s.of t r, setF s.beg t true, lk⟩ := by
  have hoth : ∀ i ∈ s.done, setF s.of t r i = s.of i := fun i hi => setF_other _ _ fun e => hnd (e ▸ hi)
  refine ⟨fun p u q hp e he hne => ?_, fun u hu hnu e he hne => ?_⟩
  · have hp' : s.done = p ++ u :: q := hp
    have hu : u ∈ s.done := by rw [hp']; simp
    have hps : t ∉ p := fun e => hnd (by rw [hp']; exact List.mem_append_left _ e)
    show e.2.2 = lastK (setF s.of t r) p e.2.1
    rw [lastK_set hps]
    have he' : e ∈ (setF s.of t r u).seen := he
    rw [hoth u hu] at he'
    exact h.done p u q hp' e he' hne
  · show e.2.2 = lastK (setF s.of t r) s.done e.2.1 ∨ ∃ i ∈ s.done, inB (setF s.of t r i).wrote e.2.1 = true ∧ (setF s.of t r u).began < (setF s.of t r i).ended
    rw [lastK_set hnd]
    have he' : e ∈ (setF s.of t r u).seen := he
    have hu' : setF s.beg t true u = true := hu
    have fin : (e.2.2 = lastK s.of s.done e.2.1 ∨ ∃ i ∈ s.done, inB (s.of i).wrote e.2.1 = true ∧ (setF s.of t r u).began < (s.of i).ended) → (e.2.2 = lastK s.of s.done e.2.1 ∨ ∃ i ∈ s.done, inB (setF s.of t r i).wrote e.2.1 = true ∧ (setF s.of t r u).began < (setF s.of t r i).ended) := fun hh => by
      rcases hh with hh | ⟨i, hi, h1, h2⟩
      · exact Or.inl hh
      · exact Or.inr ⟨i, hi, by rw [hoth i hi]; exact ⟨h1, h2⟩⟩
    refine fin ?_
    by_cases e1 : u = t
    · subst e1
      rw [setF_same] at he' ⊢
      exact hr e he' hne
    · rw [setF_other _ _ e1] at he' hu' ⊢
      exact h.open_ u hu' hnu e he' hne
theorem hit_of {s : Kst} {t : Int} {r : Dl} {i item : Int} {e : Op3} (hi : i ∈ s.done) (hw : inB (s.of i).wrote item = true) (hb : r.began < (s.of i).ended) (he : e ∈ r.seen) (h1 : e.2.1 = item) (h2 : e.2.2 ≠ t) : hitK 1 s t r = true := by
  unfold hitK
  rw [List.any_eq_true]
  refine ⟨i, hi, ?_⟩
  rw [List.any_eq_true]
  refine ⟨item, by simpa [inB] using hw, ?_⟩
  rw [if_neg (by decide), Bool.and_eq_true]
  refine ⟨decide_eq_true hb, ?_⟩
  unfold readK
  rw [List.any_eq_true]
  refine ⟨e, he, ?_⟩
  simp [h1, h2]
theorem VOkK.end_ {s : Kst} (h : VOkK s) {k : Nat} {t : Int} (hnd : t ∉ s.done) (r : Dl) (lk : List Op3) (hend : r.ended = k) (hbeg : ∀ u, s.beg u = true → (s.of u).began < (k : Int))
    (hr : ∀ e ∈ r.seen, e.2.2 ≠ t → e.2.2 = lastK s.of s.done e.2.1) : VOkK ⟨s.done ++ [t], setF s.of t r, setF s.beg t true, lk⟩ := by
  have hoth : ∀ i ∈ s.done, setF s.of t r i = s.of i := fun i hi => setF_other _ _ fun e => hnd (e ▸ hi)
  refine ⟨fun p u q hp e he hne => ?_, fun u hu hnu e he hne => ?_⟩
  · have hp' : s.done ++ [t] = p ++ u :: q := hp
    have he' : e ∈ (setF s.of t r u).seen := he
    show e.2.2 = lastK (setF s.of t r) p e.2.1
    rcases List.eq_nil_or_concat q with rfl | ⟨q', z, rfl⟩
    · obtain ⟨e1, e2⟩ := List.append_inj' hp' rfl
      cases e2
      subst e1
      rw [lastK_set hnd]
      rw [setF_same] at he'
      exact hr e he' hne
    · have hp2 : s.done ++ [t] = (p ++ u :: q') ++ [z] := by rw [hp']; simp
      obtain ⟨e1, _⟩ := List.append_inj' hp2 rfl
      have hu : u ∈ s.done := by rw [e1]; simp
      have hps : t ∉ p := fun e => hnd (by rw [e1]; exact List.mem_append_left _ e)
      rw [lastK_set hps]
      rw [hoth u hu] at he'
      exact h.done p u q' e1 e he' hne
  · have hnu' : u ∉ s.done ++ [t] := hnu
    have hut : u ≠ t := fun e => hnu' (by rw [e]; simp)
    have hus : u ∉ s.done := fun e => hnu' (List.mem_append_left _ e)
    have hu' : setF s.beg t true u = true := hu
    have he' : e ∈ (setF s.of t r u).seen := he
    rw [setF_other _ _ hut] at hu' he'
    show e.2.2 = lastK (setF s.of t r) (s.done ++ [t]) e.2.1 ∨ ∃ i ∈ s.done ++ [t], inB (setF s.of t r i).wrote e.2.1 = true ∧ (setF s.of t r u).began < (setF s.of t r i).ended
    rw [lastK_snoc, setF_same, lastK_set hnd, setF_other s.of r hut]
    by_cases hw : inB r.wrote e.2.1 = true
    · refine Or.inr ⟨t, by simp, ?_, ?_⟩
      · rw [setF_same]; exact hw
      · rw [setF_same, hend]; exact hbeg u hu'
    · rw [if_neg hw]
      rcases h.open_ u hu' hus e he' hne with hh | ⟨i, hi, h1, h2⟩
      · exact Or.inl hh
      · exact Or.inr ⟨i, List.mem_append_left _ hi, by rw [hoth i hi]; exact ⟨h1, h2⟩⟩
theorem VOkK.now {s : Kst} (h : VOkK s) (k : Int) {t : Int} (hnd : t ∉ s.done) : ∀ e ∈ (nowK s k t).seen, e.2.2 ≠ t → e.2.2 = lastK s.of s.done e.2.1 ∨ ∃ i ∈ s.done, inB (s.of i).wrote e.2.1 = true ∧ (nowK s k t).began < (s.of i).ended := by
  unfold nowK
  split
  · rename_i hb
    exact h.open_ t hb hnd
  · intro e he
    cases he
theorem valid_next {l : List Op3} {k : Nat} {s : Kst} (h : VOkK s) (hK : KOk l k s) (hc : Calm l) (hk : k < l.length) : VOkK (stepK 1 okV s k (opAt l k)) := by
  have hnd := hK.free hc hk
  have hnow := h.now k hnd
  have htime : ∀ t ∈ s.done, (s.of t).ended < (k : Int) := fun t ht => (hK.comm t ht).2.2.2.2.1
  unfold stepK
  split
  · refine h.stay hnd _ _ fun e he hne => ?_
    rcases List.mem_append.1 he with he | he
    · exact hnow e he hne
    · rw [List.mem_singleton.1 he] at hne ⊢
      dsimp only at hne ⊢
      refine Or.inl ?_
      unfold fromK at hne ⊢
      split at hne
      · exact absurd rfl hne
      · rename_i hw
        rw [if_neg hw, if_pos rfl]
        exact who_last htime _
  · split
    · exact h.stay hnd _ _ hnow
    · split
      · split
        · rename_i hok
          refine h.end_ hnd _ _ rfl (fun u hu => (hK.times u hu).2) fun e he hne => ?_
          rcases hnow e he hne with hh | ⟨i, hi, h1, h2⟩
          · exact hh
          · have hx := hit_of (t := (opAt l k).1) hi h1 h2 he rfl hne
            unfold okV at hok
            rw [hx] at hok
            cases hok
        · exact h.stay hnd _ _ hnow
      · exact h.stay hnd _ _ hnow
theorem valid_ok {l : List Op3} (h : (chk l).2 = 0) : ∀ k, k ≤ l.length → VOkK (runK 1 okV l k) := by
  obtain ⟨_, h2, h3⟩ := (chk_iff l).1 h
  intro k
  induction k with
  | zero => exact fun _ => vOk0
  | succ k ih => exact fun hk => valid_next (ih (by omega)) (run_kOk 1 okV h k (by omega)) h3 (by omega)
/-- AS IF ONE BEHIND THE OTHER, AS THEY END: each that is done saw, and wrote, what it would behind those that were done ahead of it. -/
theorem valid_sees {l : List Op3} (h : (chk l).2 = 0) {p q : List Int} {t : Int} (hp : (runK 1 okV l l.length).done = p ++ t :: q) :
    (((runK 1 okV l l.length).of t).seen, ((runK 1 okV l l.length).of t).wrote) = expK t (lastK (runK 1 okV l l.length).of p) (ofL l t) := by
  have hK := run_kOk 1 okV h l.length (Nat.le_refl _)
  have hV := valid_ok h l.length (Nat.le_refl _)
  have ht : t ∈ (runK 1 okV l l.length).done := by rw [hp]; simp
  have := hK.sees t (hK.comm t ht).1 (lastK (runK 1 okV l l.length).of p) (hV.done p t q hp)
  rw [List.take_length] at this
  exact this
end Go.Proofs.YtccjognnehoodahGreat

namespace Go.Proofs.YtccjognnehoodahGreat

/-- What a deal's own ops write. -/
def wrL (own : List Op3) : List Int := (own.filter fun o => o.2.1 == 2).map fun o => o.2.2
theorem wrL_snoc (own : List Op3) (o : Op3) : wrL (own ++ [o]) = wrL own ++ (if o.2.1 = 2 then [o.2.2] else []) := by
  unfold wrL
  rw [List.filter_append, List.map_append]
  by_cases h : o.2.1 = 2 <;> simp [h]
structure ROk (l : List Op3) (k : Nat) (s : Kst) : Prop where
  wr : ∀ t, s.beg t = true → (s.of t).wrote = wrL (ofL (l.take k) t)
  reader : ∀ t, (t, 3, 0) ∈ l.take k → wrL (ofL (l.take k) t) = [] → t ∈ s.done
theorem rOk0 (l : List Op3) : ROk l 0 kst0 := ⟨fun _ h => (by cases h), fun t h => by rw [List.take_zero] at h; cases h⟩
theorem now_wr {l : List Op3} {k : Nat} {s : Kst} (h : ∀ t, s.beg t = true → (s.of t).wrote = wrL (ofL (l.take k) t)) (hK : KOk l k s) (t : Int) : (nowK s k t).wrote = wrL (ofL (l.take k) t) := by
  unfold nowK
  split
  · rename_i hb
    exact h t hb
  · rename_i hb
    rw [hK.fresh t (by simpa using hb)]
    rfl
/-- What each wrote, of whatever kind. -/
theorem wr_next {kind : Int} {okF : Kst → Int → Dl → Bool} {l : List Op3} {k : Nat} {s : Kst} (h : ∀ t, s.beg t = true → (s.of t).wrote = wrL (ofL (l.take k) t)) (hK : KOk l k s) (hk : k < l.length) :
    ∀ t, (stepK kind okF s k (opAt l k)).beg t = true → ((stepK kind okF s k (opAt l k)).of t).wrote = wrL (ofL (l.take (k + 1)) t) := by
  have hn := now_wr h hK (opAt l k).1
  have hown : ofL (l.take (k + 1)) (opAt l k).1 = ofL (l.take k) (opAt l k).1 ++ [opAt l k] := by rw [of_take hk, if_pos rfl]
  have key : ∀ (r : Dl) (dn : List Int) (lk : List Op3), r.wrote = wrL (ofL (l.take (k + 1)) (opAt l k).1) → ∀ t, (Kst.mk dn (setF s.of (opAt l k).1 r) (setF s.beg (opAt l k).1 true) lk).beg t = true → ((Kst.mk dn (setF s.of (opAt l k).1 r) (setF s.beg (opAt l k).1 true) lk).of t).wrote = wrL (ofL (l.take (k + 1)) t) := fun r dn lk hr t ht => by
    have ht' : setF s.beg (opAt l k).1 true t = true := ht
    show (setF s.of (opAt l k).1 r t).wrote = wrL (ofL (l.take (k + 1)) t)
    by_cases e : t = (opAt l k).1
    · rw [e, setF_same]; exact hr
    · rw [setF_other _ _ e] at ht' ⊢
      rw [of_take hk, if_neg (fun e' => e e'.symm), List.append_nil]
      exact h t ht'
  unfold stepK
  split
  · rename_i ho
    refine key _ _ _ ?_
    rw [hown, wrL_snoc, if_neg (by omega), List.append_nil]
    exact hn
  · split
    · rename_i ho
      refine key _ _ _ ?_
      rw [hown, wrL_snoc, if_pos ho, ← hn]
    · rename_i ho2
      have e : (nowK s k (opAt l k).1).wrote = wrL (ofL (l.take (k + 1)) (opAt l k).1) := by
        rw [hown, wrL_snoc, if_neg ho2, List.append_nil]
        exact hn
      split
      · split
        · exact key _ _ _ e
        · exact key _ _ _ e
      · exact key _ _ _ e
theorem run_wr (kind : Int) (okF : Kst → Int → Dl → Bool) {l : List Op3} (h : (chk l).2 = 0) : ∀ k, k ≤ l.length → ∀ t, (runK kind okF l k).beg t = true → ((runK kind okF l k).of t).wrote = wrL (ofL (l.take k) t) := by
  intro k
  induction k with
  | zero => exact fun _ => fun t h => by cases h
  | succ k ih => exact fun hk => wr_next (ih (by omega)) (run_kOk kind okF h k (by omega)) (by omega)
theorem done_sub (kind : Int) (okF : Kst → Int → Dl → Bool) (s : Kst) (k : Int) (o : Op3) : ∀ t ∈ s.done, t ∈ (stepK kind okF s k o).done := by
  intro t ht
  unfold stepK
  split
  · exact ht
  · split
    · exact ht
    · split
      · split
        · exact List.mem_append_left _ ht
        · exact ht
      · exact ht
/-- WHO ONLY READS IS ALWAYS DONE. -/
theorem run_reader (kind : Int) (okF : Kst → Int → Dl → Bool) (hok : ∀ s t r, r.wrote = [] → okF s t r = true) {l : List Op3} (h : (chk l).2 = 0) : ∀ k, k ≤ l.length → ∀ t, (t, 3, 0) ∈ l.take k → wrL (ofL (l.take k) t) = [] → t ∈ (runK kind okF l k).done := by
  intro k
  induction k with
  | zero => exact fun _ t h => by rw [List.take_zero] at h; cases h
  | succ k ih =>
    intro hk t ht hw
    have hk' : k < l.length := by omega
    have hK := run_kOk kind okF h k (by omega)
    have hsplit : wrL (ofL (l.take k) t) = [] := by
      rw [of_take hk'] at hw
      split at hw
      · rw [wrL_snoc] at hw
        exact (List.append_eq_nil_iff.1 hw).1
      · rw [List.append_nil] at hw
        exact hw
    rw [List.take_succ_eq_append_getElem hk', List.mem_append, List.mem_singleton, ← opAt_at hk'] at ht
    show t ∈ (stepK kind okF (runK kind okF l k) (k : Int) (opAt l k)).done
    rcases ht with ht | ht
    · exact done_sub _ _ _ _ _ t (ih (by omega) t ht hsplit)
    · rw [← ht]
      unfold stepK
      rw [if_neg (show ¬ (3 : Int) = 1 by decide), if_neg (show ¬ (3 : Int) = 2 by decide), if_pos rfl, if_pos (hok _ _ _ ?_)]
      · exact List.mem_append_right _ (List.mem_singleton.2 rfl)
      · rw [now_wr (run_wr kind okF h k (by omega)) hK]
        exact hsplit
/-- Who is done asked to commit. -/
theorem endOf_three {l : List Op3} (hop : ∀ o ∈ l, isOpB o = true) (hc : Calm l) : ∀ {t : Int}, (t, 3, 0) ∈ l → endOf l t = 3 := by
  induction l with
  | nil => intro t h; cases h
  | cons a l ih =>
    intro t h
    obtain ⟨h1, h2⟩ := List.pairwise_cons.1 hc
    rcases List.mem_cons.1 h with e | h'
    · rw [← e]
      exact if_pos ⟨rfl, Int.le_refl 3⟩
    · have hne := h1 _ h'
      unfold endOf
      by_cases hh : a.1 = t ∧ 3 ≤ a.2.1
      · rw [if_pos hh]
        refine absurd ⟨hh.1, ?_⟩ hne
        rcases isOp_kinds (hop a (List.mem_cons_self ..)) with e | e | ⟨e | e, _⟩
        · omega
        · omega
        · rw [e]; rfl
        · rw [e]; rfl
      · rw [if_neg hh]
        exact ih (fun o ho => hop o (List.mem_cons_of_mem _ ho)) h2 h'
theorem mem_endOf {l : List Op3} (hop : ∀ o ∈ l, isOpB o = true) : ∀ {t : Int}, endOf l t = 3 → (t, 3, 0) ∈ l := by
  induction l with
  | nil => intro t h; cases h
  | cons a l ih =>
    intro t h
    unfold endOf at h
    split at h
    · rename_i hh
      rcases isOp_kinds (hop a (List.mem_cons_self ..)) with e | e | ⟨_, e⟩
      · omega
      · omega
      · have : a = (t, 3, 0) := Prod.ext hh.1 (Prod.ext h e)
        rw [this]
        exact List.mem_cons_self ..
    · exact List.mem_cons_of_mem _ (ih (fun o ho => hop o (List.mem_cons_of_mem _ ho)) h)
theorem sub_len : ∀ (l m : List Int), l.Nodup → (∀ x ∈ l, x ∈ m) → l.length ≤ m.length := by
  intro l
  induction l with
  | nil => exact fun m _ _ => Nat.zero_le _
  | cons a l ih =>
    intro m hn hs
    obtain ⟨h1, h2⟩ := List.nodup_cons.1 hn
    have ha := hs a (List.mem_cons_self ..)
    have := ih (m.erase a) h2 fun x hx => (List.mem_erase_of_ne (show x ≠ a from fun e => h1 (e ▸ hx))).2 (hs x (List.mem_cons_of_mem _ hx))
    rw [List.length_erase_of_mem ha] at this
    have hpos := List.length_pos_of_mem ha
    rw [List.length_cons]
    omega
theorem six_len {l : List Int} (hn : l.Nodup) (h : ∀ x ∈ l, 1 ≤ x ∧ x ≤ 6) : l.length ≤ 6 :=
  sub_len l [1, 2, 3, 4, 5, 6] hn fun x hx => by
    have := h x hx
    simp
    omega
end Go.Proofs.YtccjognnehoodahGreat
