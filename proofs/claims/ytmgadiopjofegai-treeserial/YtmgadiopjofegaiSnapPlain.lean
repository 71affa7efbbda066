/-
  PROVED HERE: plain facts, with no word of the program: of deals that see what was when they began (chapters 12 and 13, as KindPlain has them): who reads again sees the same; of two that ran at once no item is written by both; nobody sees what was not done.
  Conditions: none.
  (Of these, what the claim wants: the rest was left out.)
-/
import Derived.Test.YtmgadiopjofegaiKindEnds
namespace Go.Proofs.Ytmgadiopjofegai

theorem whoK_congr {of of' : Int → Dl} {ds : List Int} (h : ∀ t ∈ ds, of t = of' t) (item time below : Int) : whoK ds of item time below = whoK ds of' item time below := by
  unfold whoK
  exact foldl_congr' _ _ fun b x hx => by rw [h x hx]
theorem whoK_set {of : Int → Dl} {ds : List Int} {t : Int} (h : t ∉ ds) (r : Dl) (item time below : Int) : whoK ds (setF of t r) item time below = whoK ds of item time below :=
  whoK_congr (of := setF of t r) (of' := of) (fun _ hu => setF_other _ _ fun e => h (e ▸ hu)) item time below
/-- What is always so of such a run. -/
structure SOkK (l : List Op3) (s : Kst) : Prop where
  read : ∀ t, s.beg t = true → ∀ e ∈ (s.of t).seen, e.2.2 ≠ t → e.2.2 = whoK s.done s.of e.2.1 (s.of t).began 0
  own : ∀ t, s.beg t = true → ∀ e ∈ (s.of t).seen, e.2.2 = t → inB (s.of t).wrote e.2.1 = true
  again : ∀ t, s.beg t = true → (s.of t).seen.Pairwise fun a b => a.2.1 = b.2.1 → b.2.2 ≠ t → a.2.2 = b.2.2
  excl : ∀ i ∈ s.done, ∀ j ∈ s.done, (s.of i).ended < (s.of j).ended → ∀ item, inB (s.of i).wrote item = true → inB (s.of j).wrote item = true → (s.of i).ended ≤ (s.of j).began
  rise : s.done.Pairwise fun i j => (s.of i).ended < (s.of j).ended
  place : ∀ t, s.beg t = true → (opAt l (s.of t).began.toNat).1 = t
  life : ∀ t ∈ s.done, (s.of t).began ≤ (s.of t).ended
/-- What one deal is to be, so that all stays so. -/
structure SDl (l : List Op3) (s : Kst) (t : Int) (r : Dl) : Prop where
  read : ∀ e ∈ r.seen, e.2.2 ≠ t → e.2.2 = whoK s.done s.of e.2.1 r.began 0
  own : ∀ e ∈ r.seen, e.2.2 = t → inB r.wrote e.2.1 = true
  again : r.seen.Pairwise fun a b => a.2.1 = b.2.1 → b.2.2 ≠ t → a.2.2 = b.2.2
  place : (opAt l r.began.toNat).1 = t
theorem SOkK.now {l : List Op3} {k : Nat} {s : Kst} (h : SOkK l s) : SDl l s (opAt l k).1 (nowK s k (opAt l k).1) := by
  unfold nowK
  split
  · rename_i hb
    exact ⟨h.read _ hb, h.own _ hb, h.again _ hb, h.place _ hb⟩
  · exact ⟨fun e he => (by cases he), fun e he => (by cases he), List.Pairwise.nil, by simp⟩
theorem SOkK.stay {l : List Op3} {s : Kst} (h : SOkK l s) {t : Int} (hnd : t ∉ s.done) (r : Dl) (lk : List Op3) (hr : SDl l s t r) : SOkK l ⟨s.done, setF s.of t r, setF s.beg t true, lk⟩ := by
  have hoth : ∀ i ∈ s.done, setF s.of t r i = s.of i := fun i hi => setF_other _ _ fun e => hnd (e ▸ hi)
  refine ⟨fun u hu => ?_, fun u hu => ?_, fun u hu => ?_, fun i hi j hj => ?_, ?_, fun u hu => ?_, fun u hu => ?_⟩
  · show ∀ e ∈ (setF s.of t r u).seen, e.2.2 ≠ u → e.2.2 = whoK s.done (setF s.of t r) e.2.1 (setF s.of t r u).began 0
    have hu' : setF s.beg t true u = true := hu
    intro e he hne
    rw [whoK_set hnd]
    by_cases e1 : u = t
    · subst e1
      rw [setF_same] at he ⊢
      exact hr.read e he hne
    · rw [setF_other _ _ e1] at he hu' ⊢
      exact h.read u hu' e he hne
  · show ∀ e ∈ (setF s.of t r u).seen, e.2.2 = u → inB (setF s.of t r u).wrote e.2.1 = true
    have hu' : setF s.beg t true u = true := hu
    by_cases e1 : u = t
    · subst e1; rw [setF_same]; exact hr.own
    · rw [setF_other _ _ e1] at hu' ⊢
      exact h.own u hu'
  · show (setF s.of t r u).seen.Pairwise fun a b => a.2.1 = b.2.1 → b.2.2 ≠ u → a.2.2 = b.2.2
    have hu' : setF s.beg t true u = true := hu
    by_cases e1 : u = t
    · subst e1; rw [setF_same]; exact hr.again
    · rw [setF_other _ _ e1] at hu' ⊢
      exact h.again u hu'
  · show (setF s.of t r i).ended < (setF s.of t r j).ended → ∀ item, inB (setF s.of t r i).wrote item = true → inB (setF s.of t r j).wrote item = true → (setF s.of t r i).ended ≤ (setF s.of t r j).began
    rw [hoth i hi, hoth j hj]
    exact h.excl i hi j hj
  · exact h.rise.imp_of_mem fun {a b} ha hb hab => by
      show (setF s.of t r a).ended < (setF s.of t r b).ended
      rw [hoth a ha, hoth b hb]
      exact hab
  · show (opAt l (setF s.of t r u).began.toNat).1 = u
    have hu' : setF s.beg t true u = true := hu
    by_cases e1 : u = t
    · subst e1; rw [setF_same]; exact hr.place
    · rw [setF_other _ _ e1] at hu' ⊢
      exact h.place u hu'
  · show (setF s.of t r u).began ≤ (setF s.of t r u).ended
    rw [hoth u hu]
    exact h.life u hu
end Go.Proofs.Ytmgadiopjofegai
