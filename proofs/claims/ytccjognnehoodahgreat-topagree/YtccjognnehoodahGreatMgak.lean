/-
  PROVED HERE: nothing yet of packages valid, snap, danger, versions: what a Run of theirs is asked to answer (RunsC), for the laws that call it, and what the document's own answer is asked (RefC, RefOutC); how long that can be.
  Conditions: none.
  PROVED HERE: plain facts, with no word of the program: of deals that see what was when they began (chapters 12 and 13, as KindPlain has them): who reads again sees the same; of two that ran at once no item is written by both; nobody sees what was not done.
  Conditions: none.
  PROVED HERE: plain facts on lists, with no word of the program: the place of a deal's n-th op; the names of ops (an op, and which of its deal's ops it is); two lists have the same names just if they have the same ops of each deal, in the same order; and then an op's place is where its name stands.
  Conditions: none.
  PROVED HERE: plain facts, with no word of the program: who wrote an item last, what each op reads, and that the two ways to say that two lists look the same are one; the Reads and from whom; the first order by numbers of which something is so.
  Conditions: none.
-/
import Derived.Test.YtccjognnehoodahGreatMgai
import Derived.Test.YtccjognnehoodahGreatMgaj
import Derived.Test.YtccjognnehoodahGreatMgab
import Derived.Test.YtccjognnehoodahGreatMgac
import Derived.Test.YtccjognnehoodahGreatMgah
import Derived.Test.YtccjognnehoodahGreatMgad
namespace Go.Proofs.YtccjognnehoodahGreat
open Go.RowKit

/-- Who wrote last, as the program keeps it: item by item. -/
def lastF6 (of : Int → Dl) (ds : List Int) (i : Nat) : Int := lastK of ds ((i : Int) + 1)
def lastL (of : Int → Dl) (ds : List Int) : List Int := (List.range 6).map (lastF6 of ds)
def seenL (of : Int → Dl) (ds : List Int) : List Op3 := ds.flatMap fun t => (of t).seen
theorem seenL_snoc (of : Int → Dl) (ds : List Int) (t : Int) : seenL of (ds ++ [t]) = seenL of ds ++ (of t).seen := by unfold seenL; rw [List.flatMap_append]; simp
theorem lastL_len (of : Int → Dl) (ds : List Int) : (lastL of ds).length = 6 := by simp [lastL]
theorem seenL_len {of : Int → Dl} {m : Nat} (h : ∀ t, (of t).seen.length ≤ m) : ∀ ds : List Int, (seenL of ds).length ≤ ds.length * m := by
  intro ds
  induction ds with
  | nil => simp [seenL]
  | cons t r ih =>
    unfold seenL at ih ⊢
    rw [List.flatMap_cons, List.length_append, List.length_cons, Nat.succ_mul]
    have := h t
    omega
/-- In which order those that are done are told. -/
def ordN (byN : Bool) (done : List Int) : List Int := if byN = true then byNum done else done
/-- What a run comes to. -/
def outU (kind : Int) (okF : Kst → Int → Dl → Bool) (byN : Bool) (l : List Op3) : (List Int × List Op3 × List Int) × Int :=
  if (chk l).2 ≠ 0 then (([], [], []), (chk l).2) else ((ordN byN (runK kind okF l l.length).done, seenL (runK kind okF l l.length).of (ordN byN (runK kind okF l l.length).done), lastL (runK kind okF l l.length).of (ordN byN (runK kind okF l l.length).done)), 0)
theorem outU_bad {kind : Int} {okF : Kst → Int → Dl → Bool} {byN : Bool} {l : List Op3} (h : (chk l).2 ≠ 0) : outU kind okF byN l = (([], [], []), (chk l).2) := by unfold outU; rw [if_pos h]
theorem outU_ok {kind : Int} {okF : Kst → Int → Dl → Bool} {byN : Bool} {l : List Op3} (h : (chk l).2 = 0) : outU kind okF byN l = ((ordN byN (runK kind okF l l.length).done, seenL (runK kind okF l l.length).of (ordN byN (runK kind okF l l.length).done), lastL (runK kind okF l l.length).of (ordN byN (runK kind okF l l.length).done)), 0) := by unfold outU; rw [if_neg (by simpa using h)]
theorem byNum_len (done : List Int) : (byNum done).length ≤ 6 := by
  unfold byNum
  exact Nat.le_trans (List.length_filter_le _ _) (by simp)
theorem ordN_len {byN : Bool} {done : List Int} (h : done.length ≤ 6) : (ordN byN done).length ≤ 6 := by
  unfold ordN
  split
  · exact byNum_len done
  · exact h
theorem outU_len (kind : Int) (okF : Kst → Int → Dl → Bool) (byN : Bool) (l : List Op3) : (outU kind okF byN l).1.1.length ≤ 6 ∧ (outU kind okF byN l).1.2.1.length ≤ 240 ∧ (outU kind okF byN l).1.2.2.length ≤ 6 := by
  by_cases h : (chk l).2 = 0
  · rw [outU_ok h]
    have h1 := ordN_len (byN := byN) (kst_six kind okF h)
    have h2 := chk_len h
    have h3 := seenL_len (of := (runK kind okF l l.length).of) (m := 40) (fun t => by have := ((kst_len kind okF l l.length).1 t).1; omega) (ordN byN (runK kind okF l l.length).done)
    refine ⟨h1, ?_, by show (lastL _ _).length ≤ 6; rw [lastL_len]; exact Nat.le_refl _⟩
    show (seenL _ _).length ≤ 240
    omega
  · rw [outU_bad h]
    exact ⟨by simp, by simp, by simp⟩
/-- What a Run of a kind is asked to keep. -/
def RunsC (F : FuncId) (kind : Int) (okF : Kst → Int → Dl → Bool) (byN : Bool) : Prop := ∀ (l : List Op3) (v : Value) (w : World), IsOps w v l → Calls Tryz.prog F #[v] w fun e w' => ∃ a1 a2 a3, e = .returned (.tuple #[.agg #[a1, a2, a3], errV (outU kind okF byN l).2]) ∧
  IsInts w' a1 (outU kind okF byN l).1.1 ∧ IsOps w' a2 (outU kind okF byN l).1.2.1 ∧ IsInts w' a3 (outU kind okF byN l).1.2.2 ∧ Room a1 ∧ Below w.heap.size w w'
end Go.Proofs.YtccjognnehoodahGreat

namespace Go.Proofs.YtccjognnehoodahGreat

theorem whoK_congr {of of' : Int → Dl} {ds : List Int} (h : ∀ t ∈ ds, of t = of' t) (item time below : Int) : whoK ds of item time below = whoK ds of' item time below := by
  unfold whoK
  exact foldl_congr' _ _ fun b x hx => by rw [h x hx]
theorem whoK_set {of : Int → Dl} {ds : List Int} {t : Int} (h : t ∉ ds) (r : Dl) (item time below : Int) : whoK ds (setF of t r) item time below = whoK ds of item time below :=
  whoK_congr (of := setF of t r) (of' := of) (fun _ hu => setF_other _ _ fun e => h (e ▸ hu)) item time below
theorem whoK_late {of : Int → Dl} {ds : List Int} {t item time below : Int} (h : time ≤ (of t).ended) : whoK (ds ++ [t]) of item time below = whoK ds of item time below := by
  unfold whoK
  rw [List.foldl_append, List.foldl_cons, List.foldl_nil, if_pos]
  rw [decide_eq_true h, Bool.or_true]
/-- What is always so of such a run. -/
structure SOkK (l : List Op3) (s : Kst) : Prop where
  read : ∀ t, s.beg t = true → ∀ e ∈ (s.of t).seen, e.2.2 ≠ t → e.2.2 = whoK s.done s.of e.2.1 (s.of t).began 0
  own : ∀ t, s.beg t = true → ∀ e ∈ (s.of t).seen, e.2.2 = t → inB (s.of t).wrote e.2.1 = true
  again : ∀ t, s.beg t = true → (s.of t).seen.Pairwise fun a b => a.2.1 = b.2.1 → b.2.2 ≠ t → a.2.2 = b.2.2
  excl : ∀ i ∈ s.done, ∀ j ∈ s.done, (s.of i).ended < (s.of j).ended → ∀ item, inB (s.of i).wrote item = true → inB (s.of j).wrote item = true → (s.of i).ended ≤ (s.of j).began
  rise : s.done.Pairwise fun i j => (s.of i).ended < (s.of j).ended
  place : ∀ t, s.beg t = true → (opAt l (s.of t).began.toNat).1 = t
  life : ∀ t ∈ s.done, (s.of t).began ≤ (s.of t).ended
theorem sOk0 (l : List Op3) : SOkK l kst0 := ⟨fun _ h => (by cases h), fun _ h => (by cases h), fun _ h => (by cases h), fun _ h => (by cases h), List.Pairwise.nil, fun _ h => (by cases h), fun _ h => (by cases h)⟩
/-- What one deal is to be, so that all stays so. -/
structure SDl (l : List Op3) (s : Kst) (t : Int) (r : Dl) : Prop where
  read : ∀ e ∈ r.seen, e.2.2 ≠ t → e.2.2 = whoK s.done s.of e.2.1 r.began 0
  own : ∀ e ∈ r.seen, e.2.2 = t → inB r.wrote e.2.1 = true
  again : r.seen.Pairwise fun a b => a.2.1 = b.2.1 → b.2.2 ≠ t → a.2.2 = b.2.2
  place : (opAt l r.began.toNat).1 = t
theorem SOkK.now {l : List Op3} {k : Nat} {s : Kst} (h : SOkK l s) : SDl l s (opAt l k).1 (nowK s k (opAt l k).1) := by
  unfold nowK
  split
  · rename_i hb
    exact ⟨h.read _ hb, h.own _ hb, h.again _ hb, h.place _ hb⟩
  · exact ⟨fun e he => (by cases he), fun e he => (by cases he), List.Pairwise.nil, by simp⟩
theorem SOkK.stay {l : List Op3} {s : Kst} (h : SOkK l s) {t : Int} (hnd : t ∉ s.done) (r : Dl) (lk : List Op3) (hr : SDl l s t r) : SOkK l ⟨s.done, setF s.of t r, setF s.beg t true, lk⟩ := by
  have hoth : ∀ i ∈ s.done, setF s.of t r i = s.of i := fun i hi => setF_other _ _ fun e => hnd (e ▸ hi)
  refine ⟨fun u hu => ?_, fun u hu => ?_, fun u hu => ?_, fun i hi j hj => ?_, ?_, fun u hu => ?_, fun u hu => ?_⟩
  · show ∀ e ∈ (setF s.of t r u).seen, e.2.2 ≠ u → e.2.2 = whoK s.done (setF s.of t r) e.2.1 (setF s.of t r u).began 0
    have hu' : setF s.beg t true u = true := hu
    intro e he hne
    rw [whoK_set hnd]
    by_cases e1 : u = t
    · subst e1
      rw [setF_same] at he ⊢
      exact hr.read e he hne
    · rw [setF_other _ _ e1] at he hu' ⊢
      exact h.read u hu' e he hne
  · show ∀ e ∈ (setF s.of t r u).seen, e.2.2 = u → inB (setF s.of t r u).wrote e.2.1 = true
    have hu' : setF s.beg t true u = true := hu
    by_cases e1 : u = t
    · subst e1; rw [setF_same]; exact hr.own
    · rw [setF_other _ _ e1] at hu' ⊢
      exact h.own u hu'
  · show (setF s.of t r u).seen.Pairwise fun a b => a.2.1 = b.2.1 → b.2.2 ≠ u → a.2.2 = b.2.2
    have hu' : setF s.beg t true u = true := hu
    by_cases e1 : u = t
    · subst e1; rw [setF_same]; exact hr.again
    · rw [setF_other _ _ e1] at hu' ⊢
      exact h.again u hu'
  · show (setF s.of t r i).ended < (setF s.of t r j).ended → ∀ item, inB (setF s.of t r i).wrote item = true → inB (setF s.of t r j).wrote item = true → (setF s.of t r i).ended ≤ (setF s.of t r j).began
    rw [hoth i hi, hoth j hj]
    exact h.excl i hi j hj
  · exact h.rise.imp_of_mem fun {a b} ha hb hab => by
      show (setF s.of t r a).ended < (setF s.of t r b).ended
      rw [hoth a ha, hoth b hb]
      exact hab
  · show (opAt l (setF s.of t r u).began.toNat).1 = u
    have hu' : setF s.beg t true u = true := hu
    by_cases e1 : u = t
    · subst e1; rw [setF_same]; exact hr.place
    · rw [setF_other _ _ e1] at hu' ⊢
      exact h.place u hu'
  · show (setF s.of t r u).began ≤ (setF s.of t r u).ended
    rw [hoth u hu]
    exact h.life u hu
theorem hit_two {kind : Int} (hkind : 1 < kind) {s : Kst} {t : Int} {r : Dl} {i item : Int} (hi : i ∈ s.done) (hw : inB (s.of i).wrote item = true) (hb : r.began < (s.of i).ended) (hm : inB r.wrote item = true) : hitK kind s t r = true := by
  unfold hitK
  rw [List.any_eq_true]
  refine ⟨i, hi, ?_⟩
  rw [List.any_eq_true]
  refine ⟨item, by simpa [inB] using hw, ?_⟩
  rw [if_pos hkind, hm, decide_eq_true hb]
  rfl
theorem SOkK.end_ {kind : Int} (hkind : 1 < kind) {l : List Op3} {k : Nat} {s : Kst} (h : SOkK l s) (hK : KOk l k s) {t : Int} (hnd : t ∉ s.done) (r : Dl) (lk : List Op3) (hr : SDl l s t r) (hbeg : r.began < (k : Int) + 1) (hok : hitK kind s t r = false) :
    SOkK l ⟨s.done ++ [t], setF s.of t { r with ended := k }, setF s.beg t true, lk⟩ := by
  have hoth : ∀ i ∈ s.done, setF s.of t { r with ended := (k : Int) } i = s.of i := fun i hi => setF_other _ _ fun e => hnd (e ▸ hi)
  have htime : ∀ i ∈ s.done, (s.of i).ended < (k : Int) := fun i hi => (hK.comm i hi).2.2.2.2.1
  have hlate : ∀ item time, time ≤ (k : Int) → whoK (s.done ++ [t]) (setF s.of t { r with ended := (k : Int) }) item time 0 = whoK s.done s.of item time 0 := fun item time ht => by
    rw [whoK_late (by rw [setF_same]; exact ht), whoK_set hnd]
  refine ⟨fun u hu => ?_, fun u hu => ?_, fun u hu => ?_, fun i hi j hj => ?_, ?_, fun u hu => ?_, fun u hu => ?_⟩
  · show ∀ e ∈ (setF s.of t { r with ended := (k : Int) } u).seen, e.2.2 ≠ u → e.2.2 = whoK (s.done ++ [t]) (setF s.of t { r with ended := (k : Int) }) e.2.1 (setF s.of t { r with ended := (k : Int) } u).began 0
    have hu' : setF s.beg t true u = true := hu
    intro e he hne
    by_cases e1 : u = t
    · subst e1
      rw [setF_same] at he
      have hbb : (setF s.of u { r with ended := (k : Int) } u).began = r.began := by rw [setF_same]
      rw [hbb, hlate _ _ (by omega)]
      exact hr.read e he hne
    · have hbb : (setF s.of t { r with ended := (k : Int) } u).began = (s.of u).began := by rw [setF_other _ _ e1]
      rw [setF_other _ _ e1] at he hu'
      have := (hK.times u hu').2
      rw [hbb, hlate _ _ (by omega)]
      exact h.read u hu' e he hne
  · show ∀ e ∈ (setF s.of t { r with ended := (k : Int) } u).seen, e.2.2 = u → inB (setF s.of t { r with ended := (k : Int) } u).wrote e.2.1 = true
    have hu' : setF s.beg t true u = true := hu
    by_cases e1 : u = t
    · subst e1; rw [setF_same]; exact hr.own
    · rw [setF_other _ _ e1] at hu' ⊢
      exact h.own u hu'
  · show (setF s.of t { r with ended := (k : Int) } u).seen.Pairwise fun a b => a.2.1 = b.2.1 → b.2.2 ≠ u → a.2.2 = b.2.2
    have hu' : setF s.beg t true u = true := hu
    by_cases e1 : u = t
    · subst e1; rw [setF_same]; exact hr.again
    · rw [setF_other _ _ e1] at hu' ⊢
      exact h.again u hu'
  · show (setF s.of t { r with ended := (k : Int) } i).ended < (setF s.of t { r with ended := (k : Int) } j).ended → ∀ item, inB (setF s.of t { r with ended := (k : Int) } i).wrote item = true → inB (setF s.of t { r with ended := (k : Int) } j).wrote item = true → (setF s.of t { r with ended := (k : Int) } i).ended ≤ (setF s.of t { r with ended := (k : Int) } j).began
    rcases List.mem_append.1 hi with hi | hi
    · rw [hoth i hi]
      rcases List.mem_append.1 hj with hj | hj
      · rw [hoth j hj]
        exact h.excl i hi j hj
      · rw [List.mem_singleton.1 hj, setF_same]
        intro _ item h1 h2
        dsimp only at h2 ⊢
        by_cases hc : r.began < (s.of i).ended
        · rw [hit_two hkind hi h1 hc h2] at hok
          cases hok
        · omega
    · rw [List.mem_singleton.1 hi, setF_same]
      intro hlt
      rcases List.mem_append.1 hj with hj | hj
      · rw [hoth j hj] at hlt
        have := htime j hj
        dsimp only at hlt
        omega
      · rw [List.mem_singleton.1 hj, setF_same] at hlt
        dsimp only at hlt
        omega
  · show (s.done ++ [t]).Pairwise fun i j => (setF s.of t { r with ended := (k : Int) } i).ended < (setF s.of t { r with ended := (k : Int) } j).ended
    refine List.pairwise_append.2 ⟨h.rise.imp_of_mem fun {a b} ha hb hab => ?_, by simp, fun a ha b hb => ?_⟩
    · rw [hoth a ha, hoth b hb]
      exact hab
    · rw [List.mem_singleton.1 hb, setF_same, hoth a ha]
      exact htime a ha
  · show (opAt l (setF s.of t { r with ended := (k : Int) } u).began.toNat).1 = u
    have hu' : setF s.beg t true u = true := hu
    by_cases e1 : u = t
    · subst e1; rw [setF_same]; exact hr.place
    · rw [setF_other _ _ e1] at hu' ⊢
      exact h.place u hu'
  · show (setF s.of t { r with ended := (k : Int) } u).began ≤ (setF s.of t { r with ended := (k : Int) } u).ended
    rcases List.mem_append.1 hu with hu | hu
    · rw [hoth u hu]
      exact h.life u hu
    · rw [List.mem_singleton.1 hu, setF_same]
      dsimp only
      omega
theorem snap_next {kind : Int} {okF : Kst → Int → Dl → Bool} (hkind : kind = 2 ∨ kind = 3) (hok : ∀ s t r, okF s t r = true → hitK kind s t r = false) {l : List Op3} {k : Nat} {s : Kst} (h : SOkK l s) (hK : KOk l k s) (hc : Calm l) (hop : ∀ o ∈ l, isOpB o = true) (hk : k < l.length) : SOkK l (stepK kind okF s k (opAt l k)) := by
  have hnd := hK.free hc hk
  have hnow := h.now (k := k)
  have htx : 1 ≤ (opAt l k).1 := by
    have := hop (opAt l k) (by rw [opAt_at hk]; exact List.getElem_mem hk)
    unfold isOpB at this
    simp at this
    omega
  unfold stepK
  split
  · refine h.stay hnd _ _ ⟨fun e he hne => ?_, fun e he hne => ?_, ?_, hnow.place⟩
    · rcases List.mem_append.1 he with he | he
      · exact hnow.read e he hne
      · rw [List.mem_singleton.1 he] at hne ⊢
        dsimp only at hne ⊢
        unfold fromK at hne ⊢
        split at hne
        · exact absurd rfl hne
        · rename_i hw
          rw [if_neg hw, if_neg (by omega), if_neg (by omega)]
    · rcases List.mem_append.1 he with he | he
      · exact hnow.own e he hne
      · rw [List.mem_singleton.1 he] at hne ⊢
        exact from_own hne hnd htx
    · refine List.pairwise_append.2 ⟨hnow.again, by simp, fun a ha b hb hab hne => ?_⟩
      rw [List.mem_singleton.1 hb] at hab hne ⊢
      dsimp only at hab hne ⊢
      unfold fromK at hne ⊢
      split at hne
      · exact absurd rfl hne
      · rename_i hw
        rw [if_neg hw, if_neg (by omega), if_neg (by omega), ← hab]
        refine hnow.read a ha fun e => hw ?_
        rw [← hab]
        exact hnow.own a ha e
  · split
    · exact h.stay hnd _ _ ⟨hnow.read, fun e he hne => (by have := hnow.own e he hne; unfold inB at this ⊢; simp at this ⊢; exact Or.inl this), hnow.again, hnow.place⟩
    · split
      · split
        · rename_i hyes
          exact h.end_ (kind := kind) (by omega) hK hnd _ _ hnow ((hK.now _).2.2.1.2) (hok _ _ _ hyes)
        · exact h.stay hnd _ _ hnow
      · exact h.stay hnd _ _ hnow
theorem snap_ok {kind : Int} {okF : Kst → Int → Dl → Bool} (hkind : kind = 2 ∨ kind = 3) (hok : ∀ s t r, okF s t r = true → hitK kind s t r = false) {l : List Op3} (h : (chk l).2 = 0) : ∀ k, k ≤ l.length → SOkK l (runK kind okF l k) := by
  obtain ⟨_, h2, h3⟩ := (chk_iff l).1 h
  intro k
  induction k with
  | zero => exact fun _ => sOk0 l
  | succ k ih => exact fun hk => snap_next hkind hok (ih (by omega)) (run_kOk kind okF h k (by omega)) h3 h2 (by omega)
def okS (s : Kst) (t : Int) (r : Dl) : Bool := !hitK 2 s t r
theorem okS_hit (s : Kst) (t : Int) (r : Dl) (h : okS s t r = true) : hitK 2 s t r = false := by unfold okS at h; simpa using h
/-- NOBODY SEES WHAT WAS NOT DONE. -/
theorem snap_done {kind : Int} {okF : Kst → Int → Dl → Bool} (hkind : kind = 2 ∨ kind = 3) (hok : ∀ s t r, okF s t r = true → hitK kind s t r = false) {l : List Op3} (h : (chk l).2 = 0) {t : Int} (ht : t ∈ (runK kind okF l l.length).done) {e : Op3} (he : e ∈ ((runK kind okF l l.length).of t).seen) : e.2.2 = 0 ∨ e.2.2 ∈ (runK kind okF l l.length).done := by
  have hK := run_kOk kind okF h l.length (Nat.le_refl _)
  have hS := snap_ok hkind hok h l.length (Nat.le_refl _)
  by_cases hne : e.2.2 = t
  · exact Or.inr (hne ▸ ht)
  · rw [hS.read t (hK.comm t ht).1 e he hne]
    exact who_mem _ _ _ _ _
/-- OF TWO THAT RAN AT ONCE NO ITEM IS WRITTEN BY BOTH. -/
theorem snap_apart {kind : Int} {okF : Kst → Int → Dl → Bool} (hkind : kind = 2 ∨ kind = 3) (hok : ∀ s t r, okF s t r = true → hitK kind s t r = false) {l : List Op3} (h : (chk l).2 = 0) {i j : Int} (hi : i ∈ (runK kind okF l l.length).done) (hj : j ∈ (runK kind okF l l.length).done) (hij : i ≠ j)
    (ho : onceK ((runK kind okF l l.length).of i) ((runK kind okF l l.length).of j) = true) (item : Int) : ¬ (item ∈ wrL (ofL l i) ∧ item ∈ wrL (ofL l j)) := by
  have hK := run_kOk kind okF h l.length (Nat.le_refl _)
  have hS := snap_ok hkind hok h l.length (Nat.le_refl _)
  have hw := run_wr kind okF h l.length (Nat.le_refl _)
  rw [List.take_length] at hw
  rintro ⟨h1, h2⟩
  rw [← hw i (hK.comm i hi).1] at h1
  rw [← hw j (hK.comm j hj).1] at h2
  have ei := (hK.comm i hi).2.2.2
  have ej := (hK.comm j hj).2.2.2
  have hne : ((runK kind okF l l.length).of i).ended ≠ ((runK kind okF l l.length).of j).ended := fun e => hij (by
    have a1 := ei.2.2
    have a2 := ej.2.2
    rw [e, a2] at a1
    exact (congrArg Prod.fst a1).symm)
  unfold onceK at ho
  simp at ho
  rcases Int.lt_or_gt_of_ne hne with hlt | hlt
  · have := hS.excl i hi j hj hlt item (by simpa [inB] using h1) (by simpa [inB] using h2)
    omega
  · have := hS.excl j hj i hi hlt item (by simpa [inB] using h2) (by simpa [inB] using h1)
    omega
end Go.Proofs.YtccjognnehoodahGreat

namespace Go.Proofs.YtccjognnehoodahGreat

/-- The place of a deal's n-th op. -/
def placeOf : List Op3 → Int → Nat → Option Nat
  | [], _, _ => none
  | o :: r, t, n => if o.1 = t then (if n = 0 then some 0 else (placeOf r t (n - 1)).map (· + 1)) else (placeOf r t n).map (· + 1)
/-- Which of its deal's ops an op is. -/
def nthAt (l : List Op3) (i : Nat) : Nat := (ofL (l.take i) (opAt l i).1).length
def nameAt (l : List Op3) (i : Nat) : Op3 × Nat := (opAt l i, nthAt l i)
theorem opAt_cons (o : Op3) (r : List Op3) (i : Nat) : opAt (o :: r) (i + 1) = opAt r i := by simp [opAt]
theorem ofL_cons (o : Op3) (r : List Op3) (t : Int) : ofL (o :: r) t = if o.1 = t then o :: ofL r t else ofL r t := by
  unfold ofL
  rw [List.filter_cons]
  by_cases h : o.1 = t <;> simp [h]
theorem placeOf_some : ∀ (l : List Op3) (t : Int) (n k : Nat), placeOf l t n = some k → k < l.length ∧ (opAt l k).1 = t ∧ (ofL (l.take k) t).length = n := by
  intro l
  induction l with
  | nil => intro t n k h; simp [placeOf] at h
  | cons o r ih =>
    intro t n k h
    simp only [placeOf] at h
    split at h
    · rename_i h1
      split at h
      · rename_i h2
        simp at h
        subst h h2
        exact ⟨by simp, by simpa [opAt] using h1, by simp [ofL]⟩
      · rename_i h2
        obtain ⟨k', hk, rfl⟩ := Option.map_eq_some_iff.1 h
        obtain ⟨i1, i2, i3⟩ := ih t (n - 1) k' hk
        refine ⟨by simpa using i1, by rw [opAt_cons]; exact i2, ?_⟩
        rw [List.take_succ_cons, ofL_cons, if_pos h1, List.length_cons, i3]
        omega
    · rename_i h1
      obtain ⟨k', hk, rfl⟩ := Option.map_eq_some_iff.1 h
      obtain ⟨i1, i2, i3⟩ := ih t n k' hk
      refine ⟨by simpa using i1, by rw [opAt_cons]; exact i2, ?_⟩
      rw [List.take_succ_cons, ofL_cons, if_neg h1, i3]
theorem placeOf_at : ∀ (l : List Op3) (k : Nat), k < l.length → placeOf l (opAt l k).1 (nthAt l k) = some k := by
  intro l
  induction l with
  | nil => intro k h; simp at h
  | cons o r ih =>
    intro k h
    cases k with
    | zero => simp [placeOf, opAt, nthAt, ofL]
    | succ k =>
      have hk : k < r.length := by simpa using h
      have h1 := ih k hk
      unfold nthAt at h1 ⊢
      rw [opAt_cons, List.take_succ_cons, ofL_cons]
      simp only [placeOf]
      by_cases ho : o.1 = (opAt r k).1
      · rw [if_pos ho, if_pos ho, List.length_cons, if_neg (by omega), Nat.add_sub_cancel, h1]; rfl
      · rw [if_neg ho, if_neg ho, h1]; rfl
theorem name_inj {l : List Op3} {i k : Nat} (hi : i < l.length) (hk : k < l.length) (h : nameAt l i = nameAt l k) : i = k := by
  have h1 := placeOf_at l i hi
  have h2 := placeOf_at l k hk
  unfold nameAt at h
  simp only [Prod.mk.injEq] at h
  rw [h.1, h.2, h2] at h1
  exact (Option.some.inj h1).symm
theorem place_name {h g : List Op3} {i k : Nat} (hk : k < g.length) (hn : nameAt g k = nameAt h i) : placeOf g (opAt h i).1 (nthAt h i) = some k := by
  unfold nameAt at hn
  simp only [Prod.mk.injEq] at hn
  rw [← hn.1, ← hn.2]
  exact placeOf_at g k hk
theorem split_at {l : List Op3} {i : Nat} (hi : i < l.length) : l = l.take i ++ opAt l i :: l.drop (i + 1) := by
  have h : l[i] :: l.drop (i + 1) = l.drop i := (List.drop_eq_getElem_cons hi).symm
  have e : opAt l i = l[i] := by simp [opAt, List.getD, List.getElem?_eq_getElem hi]
  rw [e, h, List.take_append_drop]
theorem ofL_append (l m : List Op3) (t : Int) : ofL (l ++ m) t = ofL l t ++ ofL m t := by simp [ofL]
theorem of_nth {l : List Op3} {i : Nat} (hi : i < l.length) : (ofL l (opAt l i).1)[nthAt l i]? = some (opAt l i) := by
  have h := split_at hi
  generalize ho : opAt l i = o at h
  have hn : nthAt l i = (ofL (l.take i) o.1).length := by unfold nthAt; rw [ho]
  have e : ofL l o.1 = ofL (l.take i) o.1 ++ (o :: ofL (l.drop (i + 1)) o.1) := (congrArg (fun m => ofL m o.1) h).trans (by rw [ofL_append, ofL_cons, if_pos rfl])
  rw [hn, e, List.getElem?_append_right (Nat.le_refl _), Nat.sub_self]
  rfl
theorem nth_some : ∀ (l : List Op3) (t : Int) (n : Nat) (o : Op3), (ofL l t)[n]? = some o → ∃ k, k < l.length ∧ opAt l k = o ∧ nthAt l k = n := by
  intro l
  induction l with
  | nil => intro t n o h; simp [ofL] at h
  | cons a r ih =>
    intro t n o h
    rw [ofL_cons] at h
    by_cases ha : a.1 = t
    · rw [if_pos ha] at h
      cases n with
      | zero =>
        simp at h
        subst h
        exact ⟨0, by simp, by simp [opAt], by simp [nthAt, ofL]⟩
      | succ n =>
        obtain ⟨k, h1, h2, h3⟩ := ih t n o (by simpa using h)
        have ho : o.1 = t := by
          have hm := List.mem_of_getElem? (show (ofL r t)[n]? = some o by simpa using h)
          simpa [ofL] using (List.mem_filter.1 hm).2
        refine ⟨k + 1, by simpa using h1, by rw [opAt_cons]; exact h2, ?_⟩
        unfold nthAt at h3 ⊢
        rw [opAt_cons, List.take_succ_cons, ofL_cons, h2, if_pos (by rw [ho]; exact ha), List.length_cons, ← h3, h2]
    · rw [if_neg ha] at h
      obtain ⟨k, h1, h2, h3⟩ := ih t n o h
      have ho : o.1 = t := by
        have hm := List.mem_of_getElem? h
        simpa [ofL] using (List.mem_filter.1 hm).2
      refine ⟨k + 1, by simpa using h1, by rw [opAt_cons]; exact h2, ?_⟩
      unfold nthAt at h3 ⊢
      rw [opAt_cons, List.take_succ_cons, ofL_cons, h2, if_neg (by rw [ho]; exact ha), ← h3, h2]
/-- All names of the one are names of the other. -/
def Named (h g : List Op3) : Prop := ∀ i, i < h.length → ∃ k, k < g.length ∧ nameAt g k = nameAt h i
def dealsEq (h g : List Op3) : Prop := ∀ t : Int, 1 ≤ t → t ≤ 6 → ofL h t = ofL g t
theorem sum_six (l : List Op3) (hl : ∀ o ∈ l, 1 ≤ o.1 ∧ o.1 ≤ 6) : l.length = (ofL l 1).length + (ofL l 2).length + (ofL l 3).length + (ofL l 4).length + (ofL l 5).length + (ofL l 6).length := by
  induction l with
  | nil => rfl
  | cons o r ih =>
    have ho := hl o (List.mem_cons_self ..)
    have ih' := ih fun p hp => hl p (List.mem_cons_of_mem _ hp)
    simp only [ofL_cons, List.length_cons]
    rcases (show o.1 = 1 ∨ o.1 = 2 ∨ o.1 = 3 ∨ o.1 = 4 ∨ o.1 = 5 ∨ o.1 = 6 by omega) with e | e | e | e | e | e <;> rw [e] <;> simp <;> omega
theorem named_of_deals {h g : List Op3} (hh : ∀ o ∈ h, 1 ≤ o.1 ∧ o.1 ≤ 6) (hd : dealsEq h g) : Named h g := by
  intro i hi
  have h1 := of_nth hi
  have hb := hh _ (opAt_mem hi)
  rw [hd _ hb.1 hb.2] at h1
  obtain ⟨k, k1, k2, k3⟩ := nth_some g _ _ _ h1
  exact ⟨k, k1, by unfold nameAt; rw [k2, k3]⟩
theorem len_of_deals {h g : List Op3} (hh : ∀ o ∈ h, 1 ≤ o.1 ∧ o.1 ≤ 6) (hg : ∀ o ∈ g, 1 ≤ o.1 ∧ o.1 ≤ 6) (hd : dealsEq h g) : h.length = g.length := by
  rw [sum_six h hh, sum_six g hg, hd 1 (by omega) (by omega), hd 2 (by omega) (by omega), hd 3 (by omega) (by omega), hd 4 (by omega) (by omega), hd 5 (by omega) (by omega), hd 6 (by omega) (by omega)]
theorem named_nth {h g : List Op3} (hn : Named h g) (t : Int) (n : Nat) (o : Op3) (he : (ofL h t)[n]? = some o) : (ofL g t)[n]? = some o := by
  obtain ⟨i, i1, i2, i3⟩ := nth_some h t n o he
  obtain ⟨k, k1, k2⟩ := hn i i1
  have ht : o.1 = t := by
    have hm := List.mem_of_getElem? he
    simpa [ofL] using (List.mem_filter.1 hm).2
  unfold nameAt at k2
  simp only [Prod.mk.injEq] at k2
  have h1 := of_nth k1
  rw [k2.1, k2.2, i2, i3, ht] at h1
  exact h1
theorem named_len {h g : List Op3} (hn : Named h g) (t : Int) : (ofL h t).length ≤ (ofL g t).length := by
  rcases Nat.eq_zero_or_pos (ofL h t).length with h0 | h0
  · omega
  · have hlt : (ofL h t).length - 1 < (ofL h t).length := by omega
    have h1 := named_nth hn t _ _ (List.getElem?_eq_getElem hlt)
    have := (List.getElem?_eq_some_iff.1 h1).1
    omega
theorem deals_of_named {h g : List Op3} (hh : ∀ o ∈ h, 1 ≤ o.1 ∧ o.1 ≤ 6) (hg : ∀ o ∈ g, 1 ≤ o.1 ∧ o.1 ≤ 6) (hl : h.length = g.length) (hn : Named h g) : dealsEq h g := by
  rw [sum_six h hh, sum_six g hg] at hl
  have n1 := named_len hn 1
  have n2 := named_len hn 2
  have n3 := named_len hn 3
  have n4 := named_len hn 4
  have n5 := named_len hn 5
  have n6 := named_len hn 6
  intro t h1 h6
  have hlen : (ofL h t).length = (ofL g t).length := by
    rcases (show t = 1 ∨ t = 2 ∨ t = 3 ∨ t = 4 ∨ t = 5 ∨ t = 6 by omega) with e | e | e | e | e | e <;> subst e <;> omega
  refine List.ext_getElem? fun n => ?_
  by_cases hlt : n < (ofL h t).length
  · rw [List.getElem?_eq_getElem hlt]
    exact (named_nth hn t n _ (List.getElem?_eq_getElem hlt)).symm
  · rw [List.getElem?_eq_none (by omega), List.getElem?_eq_none (by omega)]
/-- Where an op of the one stands in the other; 0 if nowhere. -/
def spot (h g : List Op3) (i : Nat) : Nat := (placeOf g (opAt h i).1 (nthAt h i)).getD 0
/-- The plain answer: the same but for what may change places. -/
def turnedB (h g : List Op3) (p : Edge2) : Bool := decide (spot h g p.2.toNat < spot h g p.1.toNat)
end Go.Proofs.YtccjognnehoodahGreat

namespace Go.Proofs.YtccjognnehoodahGreat

/-- The place of the last Write of an item among the first k. -/
def wrTo (l : List Op3) (x : Int) : Nat → Option Nat
  | 0 => none
  | k + 1 => if (opAt l k).2.1 = 2 ∧ (opAt l k).2.2 = x then some k else wrTo l x k
theorem wrTo_hit {l : List Op3} {x : Int} {k : Nat} (h1 : (opAt l k).2.1 = 2) (h2 : (opAt l k).2.2 = x) : wrTo l x (k + 1) = some k := by simp [wrTo, h1, h2]
theorem wrTo_pass {l : List Op3} {x : Int} {k : Nat} (h : ¬ ((opAt l k).2.1 = 2 ∧ (opAt l k).2.2 = x)) : wrTo l x (k + 1) = wrTo l x k := by rw [wrTo, if_neg h]
theorem wrTo_some {l : List Op3} {x : Int} : ∀ {k j : Nat}, wrTo l x k = some j → j < k ∧ (opAt l j).2.1 = 2 ∧ (opAt l j).2.2 = x ∧ ∀ i, j < i → i < k → ¬ ((opAt l i).2.1 = 2 ∧ (opAt l i).2.2 = x) := by
  intro k
  induction k with
  | zero => intro j h; cases h
  | succ k ih =>
    intro j h
    by_cases hk : (opAt l k).2.1 = 2 ∧ (opAt l k).2.2 = x
    · rw [wrTo_hit hk.1 hk.2] at h
      obtain rfl := Option.some.inj h
      exact ⟨by omega, hk.1, hk.2, fun i h1 h2 => by omega⟩
    · rw [wrTo_pass hk] at h
      obtain ⟨h1, h2, h3, h4⟩ := ih h
      refine ⟨by omega, h2, h3, fun i i1 i2 => ?_⟩
      rcases Nat.lt_or_ge i k with e | e
      · exact h4 i i1 e
      · rw [show i = k by omega]; exact hk
theorem wrTo_none {l : List Op3} {x : Int} : ∀ {k : Nat}, wrTo l x k = none → ∀ i, i < k → ¬ ((opAt l i).2.1 = 2 ∧ (opAt l i).2.2 = x) := by
  intro k
  induction k with
  | zero => intro _ i hi; omega
  | succ k ih =>
    intro h i hi
    by_cases hk : (opAt l k).2.1 = 2 ∧ (opAt l k).2.2 = x
    · rw [wrTo_hit hk.1 hk.2] at h; cases h
    · rw [wrTo_pass hk] at h
      rcases Nat.lt_or_ge i k with e | e
      · exact ih h i e
      · rw [show i = k by omega]; exact hk
/-- No name. -/
def zN : Op3 × Nat := ((0, 0, 0), 0)
/-- The name of the Write that was last of an item, among the first k. -/
def lastW (l : List Op3) (k : Nat) (x : Int) : Op3 × Nat := match wrTo l x k with | none => zN | some j => nameAt l j
theorem lastW_none {l : List Op3} {k : Nat} {x : Int} (h : wrTo l x k = none) : lastW l k x = zN := by rw [lastW, h]
theorem lastW_some {l : List Op3} {k j : Nat} {x : Int} (h : wrTo l x k = some j) : lastW l k x = nameAt l j := by rw [lastW, h]
theorem lastW_zero (l : List Op3) (x : Int) : lastW l 0 x = zN := rfl
theorem lastW_hit {l : List Op3} {x : Int} {k : Nat} (h1 : (opAt l k).2.1 = 2) (h2 : (opAt l k).2.2 = x) : lastW l (k + 1) x = nameAt l k := lastW_some (wrTo_hit h1 h2)
theorem lastW_pass {l : List Op3} {x : Int} {k : Nat} (h : ¬ ((opAt l k).2.1 = 2 ∧ (opAt l k).2.2 = x)) : lastW l (k + 1) x = lastW l k x := by unfold lastW; rw [wrTo_pass h]
/-- What an op reads. -/
def srcN (l : List Op3) (i : Nat) : Op3 × Nat := if (opAt l i).2.1 = 1 then lastW l i (opAt l i).2.2 else zN
/-- The program's answer: the same names, each reads the same, the same is left. -/
def seenB (h g : List Op3) (k : Nat) : Bool := (List.range h.length).any fun i => nameAt h i == nameAt g k && srcN h i == srcN g k
def leftB (h g : List Op3) : Bool := (List.range 7).all fun x => lastW h h.length ((x : Nat) : Int) == lastW g g.length ((x : Nat) : Int)
def sightB (h g : List Op3) : Bool := (g.length == h.length) && (List.range g.length).all (seenB h g) && leftB h g
theorem seenB_iff {h g : List Op3} {k : Nat} : seenB h g k = true ↔ ∃ i, i < h.length ∧ nameAt h i = nameAt g k ∧ srcN h i = srcN g k := by simp [seenB]
theorem leftB_iff {h g : List Op3} : leftB h g = true ↔ ∀ x : Nat, x < 7 → lastW h h.length x = lastW g g.length x := by simp [leftB]
theorem sightB_iff {h g : List Op3} : sightB h g = true ↔ g.length = h.length ∧ (∀ k, k < g.length → seenB h g k = true) ∧ leftB h g = true := by simp [sightB, and_assoc]
/-- The statements' answer, for one Read. -/
def readOk (h g : List Op3) (i : Nat) : Bool := match wrTo h (opAt h i).2.2 i, wrTo g (opAt g (spot h g i)).2.2 (spot h g i) with
  | none, none => true
  | some a, some b => (opAt h a).1 == (opAt g b).1 && nthAt h a == nthAt g b
  | _, _ => false
def lastTx (l : List Op3) (x : Int) : Int := (lastW l l.length x).1.1
/-- The statements' answer. -/
def Views (h g : List Op3) : Prop := dealsEq h g ∧ (∀ x : Int, 1 ≤ x → x ≤ 6 → lastTx h x = lastTx g x) ∧ ∀ i, i < h.length → (opAt h i).2.1 = 1 → readOk h g i = true
theorem isOp_deal {o : Op3} (h : isOpB o = true) : 1 ≤ o.1 ∧ o.1 ≤ 6 := by
  simp [isOpB] at h; omega
theorem isOp_item {o : Op3} (h : isOpB o = true) (h2 : o.2.1 = 1 ∨ o.2.1 = 2) : 1 ≤ o.2.2 ∧ o.2.2 ≤ 6 := by
  rcases h2 with e | e <;> simp [isOpB, endsB, e] at h <;> omega
theorem name_parts {h g : List Op3} {i k : Nat} (hn : nameAt h i = nameAt g k) : opAt h i = opAt g k ∧ nthAt h i = nthAt g k := by
  unfold nameAt at hn; simpa using hn
theorem name_of_nth {h g : List Op3} {a b : Nat} (hh : ∀ o ∈ h, isOpB o = true) (hd : dealsEq h g) (ha : a < h.length) (hb : b < g.length) (h1 : (opAt h a).1 = (opAt g b).1) (h2 : nthAt h a = nthAt g b) : nameAt h a = nameAt g b := by
  have e1 := of_nth ha
  have e2 := of_nth hb
  have hx := isOp_deal (hh _ (opAt_mem ha))
  rw [hd _ hx.1 hx.2, h1, h2, e2] at e1
  unfold nameAt
  rw [h2, Option.some.inj e1]
theorem name_ne {l : List Op3} {i : Nat} (hl : ∀ o ∈ l, isOpB o = true) (hi : i < l.length) : nameAt l i ≠ zN := fun h => by
  have h1 := isOp_deal (hl _ (opAt_mem hi))
  have h2 : (opAt l i).1 = 0 := by have := congrArg (·.1.1) h; simpa [nameAt, zN] using this
  omega
theorem nth_mono {l : List Op3} {i k : Nat} (h : i ≤ k) (he : (opAt l i).1 = (opAt l k).1) : nthAt l i ≤ nthAt l k := by
  unfold nthAt ofL
  rw [he]
  refine List.Sublist.length_le (List.Sublist.filter _ ?_)
  rw [show l.take i = (l.take k).take i by rw [List.take_take, Nat.min_eq_left h]]
  exact List.take_sublist _ _
theorem last_le {h g : List Op3} {a b : Nat} {x : Int} (hh : ∀ o ∈ h, isOpB o = true) (hd : dealsEq h g) (ha : wrTo h x h.length = some a) (hb : wrTo g x g.length = some b) (he : (opAt h a).1 = (opAt g b).1) : nthAt h a ≤ nthAt g b := by
  obtain ⟨a1, a2, a3, a4⟩ := wrTo_some ha
  obtain ⟨b1, b2, b3, b4⟩ := wrTo_some hb
  obtain ⟨k, k1, k2⟩ := named_of_deals (fun o ho => isOp_deal (hh o ho)) hd a a1
  obtain ⟨k3, k4⟩ := name_parts k2
  have hkb : k ≤ b := by
    rcases Nat.lt_or_ge b k with e | e
    · exact absurd ⟨by rw [k3]; exact a2, by rw [k3]; exact a3⟩ (b4 k e k1)
    · exact e
  rw [← k4]
  exact nth_mono hkb (by rw [k3, he])
theorem deals_symm {h g : List Op3} (hd : dealsEq h g) : dealsEq g h := fun t h1 h2 => (hd t h1 h2).symm
theorem wrTo_nought {l : List Op3} (hl : ∀ o ∈ l, isOpB o = true) : ∀ k, k ≤ l.length → wrTo l 0 k = none := by
  intro k
  induction k with
  | zero => intro _; rfl
  | succ k ih =>
    intro hk
    rw [wrTo_pass, ih (by omega)]
    rintro ⟨h1, h2⟩
    have := isOp_item (hl _ (opAt_mem (show k < l.length by omega))) (.inr h1)
    omega
/-- Both answers are one. -/
theorem views_sight {h g : List Op3} (hh : ∀ o ∈ h, isOpB o = true) (hg : ∀ o ∈ g, isOpB o = true) : Views h g ↔ sightB h g = true := by
  have th := fun o ho => isOp_deal (hh o ho)
  have tg := fun o ho => isOp_deal (hg o ho)
  rw [sightB_iff]
  constructor
  · rintro ⟨hd, hl, hr⟩
    have hlen := len_of_deals th tg hd
    refine ⟨hlen.symm, fun k hk => seenB_iff.2 ?_, leftB_iff.2 fun x hx => ?_⟩
    · obtain ⟨i, hi, hn⟩ := named_of_deals tg (deals_symm hd) k hk
      refine ⟨i, hi, hn, ?_⟩
      obtain ⟨n1, n2⟩ := name_parts hn
      unfold srcN
      rw [n1]
      by_cases hrd : (opAt g k).2.1 = 1
      · rw [if_pos hrd, if_pos hrd]
        have hsp : spot h g i = k := by unfold spot; rw [place_name hk hn.symm]; rfl
        have h1 := hr i hi (by rw [n1]; exact hrd)
        unfold readOk at h1
        rw [hsp, n1] at h1
        cases ha : wrTo h (opAt g k).2.2 i with
        | none =>
          cases hb : wrTo g (opAt g k).2.2 k with
          | none => rw [lastW_none ha, lastW_none hb]
          | some b => rw [ha, hb] at h1; cases h1
        | some a =>
          cases hb : wrTo g (opAt g k).2.2 k with
          | none => rw [ha, hb] at h1; cases h1
          | some b =>
            rw [ha, hb] at h1
            simp at h1
            rw [lastW_some ha, lastW_some hb]
            exact name_of_nth hh hd (by have := (wrTo_some ha).1; omega) (by have := (wrTo_some hb).1; omega) h1.1 h1.2
      · rw [if_neg hrd, if_neg hrd]
    · rcases Nat.eq_zero_or_pos x with e | e
      · subst e
        rw [show ((0 : Nat) : Int) = 0 from rfl, lastW_none (wrTo_nought hh _ (Nat.le_refl _)), lastW_none (wrTo_nought hg _ (Nat.le_refl _))]
      · have h1 := hl x (by omega) (by omega)
        unfold lastTx at h1
        cases ha : wrTo h (x : Int) h.length with
        | none =>
          cases hb : wrTo g (x : Int) g.length with
          | none => rw [lastW_none ha, lastW_none hb]
          | some b =>
            rw [lastW_none ha, lastW_some hb] at h1
            have := tg _ (opAt_mem (wrTo_some hb).1)
            simp [zN, nameAt] at h1
            omega
        | some a =>
          cases hb : wrTo g (x : Int) g.length with
          | none =>
            rw [lastW_some ha, lastW_none hb] at h1
            have := th _ (opAt_mem (wrTo_some ha).1)
            simp [zN, nameAt] at h1
            omega
          | some b =>
            rw [lastW_some ha, lastW_some hb] at h1 ⊢
            have h2 : (opAt h a).1 = (opAt g b).1 := h1
            have i1 := last_le hh hd ha hb h2
            have i2 := last_le hg (deals_symm hd) hb ha h2.symm
            exact name_of_nth hh hd (wrTo_some ha).1 (wrTo_some hb).1 h2 (by omega)
  · rintro ⟨hlen, hs, hl⟩
    have hn : Named g h := fun k hk => by
      obtain ⟨i, i1, i2, _⟩ := seenB_iff.1 (hs k hk)
      exact ⟨i, i1, i2⟩
    have hd : dealsEq h g := deals_symm (deals_of_named tg th hlen hn)
    refine ⟨hd, fun x h1 h6 => ?_, fun i hi hrd => ?_⟩
    · have := leftB_iff.1 hl x.toNat (by omega)
      rw [show ((x.toNat : Nat) : Int) = x by omega] at this
      unfold lastTx
      rw [this]
    · obtain ⟨k, hk, hkn⟩ := named_of_deals th hd i hi
      obtain ⟨i', i1, i2, i3⟩ := seenB_iff.1 (hs k hk)
      obtain rfl := name_inj i1 hi (i2.trans hkn)
      have hsp : spot h g i' = k := by unfold spot; rw [place_name hk hkn]; rfl
      obtain ⟨n1, n2⟩ := name_parts hkn
      unfold srcN at i3
      rw [n1, if_pos hrd, if_pos hrd] at i3
      unfold readOk
      rw [hsp, n1]
      cases ha : wrTo h (opAt h i').2.2 i' with
      | none =>
        cases hb : wrTo g (opAt h i').2.2 k with
        | none => rfl
        | some b =>
          rw [lastW_none ha, lastW_some hb] at i3
          exact absurd i3.symm (name_ne hg (by have := (wrTo_some hb).1; omega))
      | some a =>
        cases hb : wrTo g (opAt h i').2.2 k with
        | none =>
          rw [lastW_some ha, lastW_none hb] at i3
          exact absurd i3 (name_ne hh (by have := (wrTo_some ha).1; omega))
        | some b =>
          rw [lastW_some ha, lastW_some hb] at i3
          obtain ⟨m1, m2⟩ := name_parts i3
          simp [m1, m2]
/-- Reads, and from whom, among the first k. -/
def readsTo (l : List Op3) : Nat → List Edge2
  | 0 => []
  | k + 1 => if (opAt l k).2.1 = 1 then readsTo l k ++ [((k : Int), (lastW l k (opAt l k).2.2).1.1)] else readsTo l k
theorem readsTo_len (l : List Op3) (k : Nat) : (readsTo l k).length ≤ k := by
  induction k with
  | zero => exact Nat.le_refl _
  | succ k ih =>
    rw [readsTo]
    split
    · simp; omega
    · omega
/-- Orders that are tried, the first by numbers first: f more are to come behind a beginning. -/
def tryO (ds : List Int) (p : List Int → Bool) : Nat → List Int → Option (List Int)
  | 0, b => if p b = true then some b else none
  | f + 1, b => ds.findSome? fun t => if b.contains t = true then none else tryO ds p f (b ++ [t])
theorem findSome_at {α β : Type} {q : α → Option β} : ∀ {l : List α} {k : Nat} {a : α} {r : β}, l[k]? = some a → q a = some r → (∀ j y, j < k → l[j]? = some y → q y = none) → l.findSome? q = some r := by
  intro l
  induction l with
  | nil => intro k a r h; simp at h
  | cons x l ih =>
    intro k a r h hr hn
    cases k with
    | zero =>
      simp at h
      subst h
      simp [hr]
    | succ k =>
      have h0 := hn 0 x (by omega) (by simp)
      simp [h0]
      exact ih (k := k) (by simpa using h) hr fun j y hj hy => hn (j + 1) y (by omega) (by simpa using hy)
theorem tryO_hit {ds : List Int} {p : List Int → Bool} {f k : Nat} {b r : List Int} (hk : k < ds.length) (hb : ds.getD k 0 ∉ b) (hs : tryO ds p f (b ++ [ds.getD k 0]) = some r) (hn : ∀ j, j < k → ds.getD j 0 ∉ b → tryO ds p f (b ++ [ds.getD j 0]) = none) : tryO ds p (f + 1) b = some r := by
  rw [tryO]
  refine findSome_at (k := k) (a := ds.getD k 0) (by simp [List.getD, List.getElem?_eq_getElem hk]) (by rw [if_neg (by simpa using hb)]; exact hs) fun j y hj hy => ?_
  have e : ds.getD j 0 = y := by simp [List.getD, hy]
  split
  · rfl
  · rename_i h
    rw [← e]
    exact hn j hj (by rw [e]; simpa using h)
theorem tryO_none {ds : List Int} {p : List Int → Bool} {f : Nat} {b : List Int} (hn : ∀ j, j < ds.length → ds.getD j 0 ∉ b → tryO ds p f (b ++ [ds.getD j 0]) = none) : tryO ds p (f + 1) b = none := by
  rw [tryO, List.findSome?_eq_none_iff]
  intro y hy
  obtain ⟨j, hj, e⟩ := List.mem_iff_getElem.1 hy
  have e' : ds.getD j 0 = y := by simp [List.getD, List.getElem?_eq_getElem hj, e]
  split
  · rfl
  · rename_i h
    rw [← e']
    exact hn j hj (by rw [e']; simpa using h)
/-- A beginning of an order: deals, each once. -/
structure Begun (ds b : List Int) : Prop where
  once : b.Nodup
  all : ∀ x ∈ b, x ∈ ds
theorem Begun.nil (ds : List Int) : Begun ds [] := ⟨List.nodup_nil, fun x hx => by cases hx⟩
theorem Begun.snoc {ds b : List Int} (h : Begun ds b) {t : Int} (ht : t ∈ ds) (hb : t ∉ b) : Begun ds (b ++ [t]) where
  once := by
    rw [List.nodup_append]
    refine ⟨h.once, by simp, ?_⟩
    intro x hx y hy
    rw [List.mem_singleton.1 hy]
    intro e
    exact hb (e ▸ hx)
  all := fun x hx => by
    rcases List.mem_append.1 hx with e | e
    · exact h.all x e
    · rw [List.mem_singleton.1 e]; exact ht
theorem getD_mem {ds : List Int} {k : Nat} (hk : k < ds.length) : ds.getD k 0 ∈ ds := by simp [List.getD, List.getElem?_eq_getElem hk]
end Go.Proofs.YtccjognnehoodahGreat
