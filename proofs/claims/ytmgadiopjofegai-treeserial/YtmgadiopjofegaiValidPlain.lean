/-
  PROVED HERE: plain facts, with no word of the program: of deals that are looked at when they end (chapter 11, as KindPlain has it) each that is done saw what those wrote that were done ahead of it.
  Conditions: none.
  (Of these, what the claim wants: the rest was left out.)
-/
import Derived.Test.YtmgadiopjofegaiKindOk
namespace Go.Proofs.Ytmgadiopjofegai

/-- Who of these wrote an item last. -/
def lastK (of : Int → Dl) (ds : List Int) (item : Int) : Int := ds.foldl (fun f t => if inB (of t).wrote item = true then t else f) 0
theorem foldl_congr' {α β : Type} {f g : β → α → β} : ∀ (l : List α) (b : β), (∀ b, ∀ x ∈ l, f b x = g b x) → l.foldl f b = l.foldl g b := by
  intro l
  induction l with
  | nil => intros; rfl
  | cons a l ih =>
    intro b h
    rw [List.foldl_cons, List.foldl_cons, h b a (List.mem_cons_self ..)]
    exact ih _ fun b x hx => h b x (List.mem_cons_of_mem _ hx)
theorem lastK_congr {of of' : Int → Dl} {ds : List Int} (h : ∀ t ∈ ds, of t = of' t) (item : Int) : lastK of ds item = lastK of' ds item := by
  unfold lastK
  exact foldl_congr' _ _ fun b x hx => by rw [h x hx]
theorem lastK_set {of : Int → Dl} {ds : List Int} {t : Int} (h : t ∉ ds) (r : Dl) (item : Int) : lastK (setF of t r) ds item = lastK of ds item :=
  lastK_congr (of := setF of t r) (of' := of) (fun _ hu => setF_other _ _ fun e => h (e ▸ hu)) item
/-- What is always so of such a run. -/
structure VOkK (s : Kst) : Prop where
  done : ∀ p t q, s.done = p ++ t :: q → ∀ e ∈ (s.of t).seen, e.2.2 ≠ t → e.2.2 = lastK s.of p e.2.1
  open_ : ∀ t, s.beg t = true → t ∉ s.done → ∀ e ∈ (s.of t).seen, e.2.2 ≠ t → e.2.2 = lastK s.of s.done e.2.1 ∨ ∃ i ∈ s.done, inB (s.of i).wrote e.2.1 = true ∧ (s.of t).began < (s.of i).ended
theorem VOkK.stay {s : Kst} (h : VOkK s) {t : Int} (hnd : t ∉ s.done) (r : Dl) (lk : List Op3)
    (hr : ∀ e ∈ r.seen, e.2.2 ≠ t → e.2.2 = lastK s.of s.done e.2.1 ∨ ∃ i ∈ s.done, inB (s.of i).wrote e.2.1 = true ∧ r.began < (s.of i).ended) : VOkK ⟨s.done, setF s.of t r, setF s.beg t true, lk⟩ := by
  have hoth : ∀ i ∈ s.done, setF s.of t r i = s.of i := fun i hi => setF_other _ _ fun e => hnd (e ▸ hi)
  refine ⟨fun p u q hp e he hne => ?_, fun u hu hnu e he hne => ?_⟩
  · have hp' : s.done = p ++ u :: q := hp
    have hu : u ∈ s.done := by rw [hp']; simp
    have hps : t ∉ p := fun e => hnd (by rw [hp']; exact List.mem_append_left _ e)
    show e.2.2 = lastK (setF s.of t r) p e.2.1
    rw [lastK_set hps]
    have he' : e ∈ (setF s.of t r u).seen := he
    rw [hoth u hu] at he'
    exact h.done p u q hp' e he' hne
  · show e.2.2 = lastK (setF s.of t r) s.done e.2.1 ∨ ∃ i ∈ s.done, inB (setF s.of t r i).wrote e.2.1 = true ∧ (setF s.of t r u).began < (setF s.of t r i).ended
    rw [lastK_set hnd]
    have he' : e ∈ (setF s.of t r u).seen := he
    have hu' : setF s.beg t true u = true := hu
    have fin : (e.2.2 = lastK s.of s.done e.2.1 ∨ ∃ i ∈ s.done, inB (s.of i).wrote e.2.1 = true ∧ (setF s.of t r u).began < (s.of i).ended) → (e.2.2 = lastK s.of s.done e.2.1 ∨ ∃ i ∈ s.done, inB (setF s.of t r i).wrote e.2.1 = true ∧ (setF s.of t r u).began < (setF s.of t r i).ended) := fun hh => by
      rcases hh with hh | ⟨i, hi, h1, h2⟩
      · exact Or.inl hh
      · exact Or.inr ⟨i, hi, by rw [hoth i hi]; exact ⟨h1, h2⟩⟩
    refine fin ?_
    by_cases e1 : u = t
    · subst e1
      rw [setF_same] at he' ⊢
      exact hr e he' hne
    · rw [setF_other _ _ e1] at he' hu' ⊢
      exact h.open_ u hu' hnu e he' hne
theorem VOkK.now {s : Kst} (h : VOkK s) (k : Int) {t : Int} (hnd : t ∉ s.done) : ∀ e ∈ (nowK s k t).seen, e.2.2 ≠ t → e.2.2 = lastK s.of s.done e.2.1 ∨ ∃ i ∈ s.done, inB (s.of i).wrote e.2.1 = true ∧ (nowK s k t).began < (s.of i).ended := by
  unfold nowK
  split
  · rename_i hb
    exact h.open_ t hb hnd
  · intro e he
    cases he
end Go.Proofs.Ytmgadiopjofegai
