/-
  PROVED HERE: plain facts, with no word of the program: of the run in which nobody may be between (chapter 13) nobody is; if nobody is between of what is done by what was when deals began (chapter 12), both runs are one; and so it is where one alone writes.
  Conditions: none.
-/
import Derived.Test.YtccjognnehoodagDangerPlain
namespace Go.Proofs.Ytccjognnehoodag

theorem any_alike3 {α : Type} {f g : α → Bool} : ∀ (l : List α), (∀ x ∈ l, f x = g x) → l.any f = l.any g := by
  intro l
  induction l with
  | nil => intros; rfl
  | cons a l ih =>
    intro h
    rw [List.any_cons, List.any_cons, h a (List.mem_cons_self ..), ih fun x hx => h x (List.mem_cons_of_mem _ hx)]
theorem piv_congr {of of' : Int → Dl} {ds : List Int} (h : ∀ t ∈ ds, ∀ u ∈ ds, t ≠ u → antiB t (of t) (of u) = antiB t (of' t) (of' u)) : pivL of ds = pivL of' ds := by
  unfold pivL
  refine any_alike3 _ fun t ht => ?_
  have e1 : intoAnti of ds t = intoAnti of' ds t := by
    unfold intoAnti
    refine any_alike3 _ fun u hu => ?_
    by_cases e : u = t
    · simp [e]
    · rw [h u hu t ht e]
  have e2 : outAnti of ds t = outAnti of' ds t := by
    unfold outAnti
    refine any_alike3 _ fun u hu => ?_
    by_cases e : u = t
    · simp [e]
    · rw [h t ht u hu fun e' => e e'.symm]
  rw [e1, e2]
/-- One that commits now, and one that runs still: both are at once with the same. -/
theorem piv_commit {l : List Op3} {k : Nat} {s : Kst} (hK : KOk l k s) {t : Int} (hnd : t ∉ s.done) {r : Dl} (hr : r.ended = -1) : pivL (setF s.of t r) (s.done ++ [t]) = pivL (setF s.of t { r with ended := (k : Int) }) (s.done ++ [t]) := by
  have hb : ∀ u ∈ s.done, (s.of u).began < (k : Int) := fun u hu => (hK.times u (hK.comm u hu).1).2
  refine piv_congr fun x hx y hy hxy => ?_
  rcases List.mem_append.1 hx with hx | hx
  · have ex : x ≠ t := fun e => hnd (e ▸ hx)
    rw [setF_other _ _ ex, setF_other _ _ ex]
    rcases List.mem_append.1 hy with hy | hy
    · have ey : y ≠ t := fun e => hnd (e ▸ hy)
      rw [setF_other _ _ ey, setF_other _ _ ey]
    · rw [List.mem_singleton.1 hy, setF_same, setF_same]
      unfold antiB onceK
      dsimp only
      rw [hr]
      have h1 := hb x hx
      have e1 : decide ((s.of x).began < (k : Int)) = true := decide_eq_true h1
      have e2 : decide ((-1 : Int) < 0) = true := by decide
      rw [e1, e2, Bool.or_true, Bool.true_or]
  · rw [List.mem_singleton.1 hx, setF_same, setF_same]
    rcases List.mem_append.1 hy with hy | hy
    · have ey : y ≠ t := fun e => hnd (e ▸ hy)
      rw [setF_other _ _ ey, setF_other _ _ ey]
      unfold antiB onceK
      dsimp only
      rw [hr]
      have h1 := hb y hy
      have e1 : decide ((s.of y).began < (k : Int)) = true := decide_eq_true h1
      have e2 : decide ((-1 : Int) < 0) = true := by decide
      rw [e1, e2, Bool.or_true, Bool.true_or]
      rfl
    · exact absurd ((List.mem_singleton.1 hx).trans (List.mem_singleton.1 hy).symm) hxy
theorem piv_stay {s : Kst} {t : Int} (hnd : t ∉ s.done) (r : Dl) : pivL (setF s.of t r) s.done = pivL s.of s.done :=
  piv_congr fun x hx y hy _ => by rw [setF_other s.of r (show x ≠ t from fun e => hnd (e ▸ hx)), setF_other s.of r (show y ≠ t from fun e => hnd (e ▸ hy))]
theorem piv_grow {of of' : Int → Dl} {ds es : List Int} (hs : ∀ t ∈ ds, t ∈ es) (ho : ∀ t ∈ ds, of' t = of t) (h : pivL of ds = true) : pivL of' es = true := by
  unfold pivL at h ⊢
  obtain ⟨t, ht, h1⟩ := List.any_eq_true.1 h
  rw [Bool.and_eq_true] at h1
  refine List.any_eq_true.2 ⟨t, hs t ht, ?_⟩
  rw [Bool.and_eq_true]
  unfold intoAnti outAnti at h1 ⊢
  obtain ⟨⟨u, hu, h2⟩, ⟨v, hv, h3⟩⟩ := And.intro (List.any_eq_true.1 h1.1) (List.any_eq_true.1 h1.2)
  exact ⟨List.any_eq_true.2 ⟨u, hs u hu, by rw [ho u hu, ho t ht]; exact h2⟩, List.any_eq_true.2 ⟨v, hs v hv, by rw [ho t ht, ho v hv]; exact h3⟩⟩
/-- What a step does to those that are done. -/
theorem step_parts (kind : Int) (okF : Kst → Int → Dl → Bool) (s : Kst) (k : Int) (o : Op3) :
    (o.2.1 = 3 ∧ okF s o.1 (nowK s k o.1) = true ∧ stepK kind okF s k o = doneStep s k o.1) ∨ ((o.2.1 ≠ 3 ∨ okF s o.1 (nowK s k o.1) = false) ∧ ∃ r lk, stepK kind okF s k o = ⟨s.done, setF s.of o.1 r, setF s.beg o.1 true, lk⟩) := by
  unfold stepK
  split
  · rename_i h1
    exact Or.inr ⟨Or.inl (by omega), _, _, rfl⟩
  · split
    · rename_i h1
      exact Or.inr ⟨Or.inl (by omega), _, _, rfl⟩
    · split
      · rename_i h3
        split
        · rename_i hok
          exact Or.inl ⟨h3, hok, rfl⟩
        · rename_i hok
          exact Or.inr ⟨Or.inr (by simpa using hok), _, _, rfl⟩
      · rename_i h3
        exact Or.inr ⟨Or.inl h3, _, _, rfl⟩
/-- Where nobody may be between nobody is. -/
theorem danger_free {l : List Op3} (h : (chk l).2 = 0) : ∀ k, k ≤ l.length → pivL (runK 3 okBtw l k).of (runK 3 okBtw l k).done = false := by
  obtain ⟨_, h2, h3⟩ := (chk_iff l).1 h
  intro k
  induction k with
  | zero => exact fun _ => rfl
  | succ k ih =>
    intro hk
    have hK := run_kOk 3 okBtw h k (by omega)
    have hnd := hK.free h3 (show k < l.length by omega)
    show pivL (stepK 3 okBtw (runK 3 okBtw l k) (k : Int) (opAt l k)).of (stepK 3 okBtw (runK 3 okBtw l k) (k : Int) (opAt l k)).done = false
    rcases step_parts 3 okBtw (runK 3 okBtw l k) (k : Int) (opAt l k) with ⟨_, h5, h6⟩ | ⟨_, r, lk, h6⟩
    · rw [h6]
      unfold doneStep
      dsimp only
      rw [← piv_commit hK hnd ((hK.now _).2.2.2 hnd)]
      unfold okBtw at h5
      simp at h5
      exact h5.2
    · rw [h6]
      dsimp only
      rw [piv_stay hnd]
      exact ih (by omega)
theorem piv_keep (kind : Int) (okF : Kst → Int → Dl → Bool) {l : List Op3} (h : (chk l).2 = 0) (k : Nat) : ∀ n, k + n ≤ l.length → pivL (runK kind okF l k).of (runK kind okF l k).done = true → pivL (runK kind okF l (k + n)).of (runK kind okF l (k + n)).done = true := by
  obtain ⟨_, h2, h3⟩ := (chk_iff l).1 h
  intro n
  induction n with
  | zero => exact fun _ hh => hh
  | succ n ih =>
    intro hn hh
    have h1 := ih (by omega) hh
    have hK := run_kOk kind okF h (k + n) (by omega)
    have hnd := hK.free h3 (show k + n < l.length by omega)
    show pivL (stepK kind okF (runK kind okF l (k + n)) ((k + n : Nat) : Int) (opAt l (k + n))).of (stepK kind okF (runK kind okF l (k + n)) ((k + n : Nat) : Int) (opAt l (k + n))).done = true
    rcases step_parts kind okF (runK kind okF l (k + n)) ((k + n : Nat) : Int) (opAt l (k + n)) with ⟨_, _, h6⟩ | ⟨_, r, lk, h6⟩
    · rw [h6]
      unfold doneStep
      dsimp only
      exact piv_grow (fun t ht => List.mem_append_left _ ht) (fun t ht => setF_other _ _ fun e => hnd (e ▸ ht)) h1
    · rw [h6]
      dsimp only
      rw [piv_stay hnd]
      exact h1
theorem from_same (s : Kst) (k : Int) (r : Dl) (t item : Int) : fromK 3 s k r t item = fromK 2 s k r t item := rfl
theorem hit_same (s : Kst) (t : Int) (r : Dl) : hitK 3 s t r = hitK 2 s t r := by
  unfold hitK
  simp
/-- NOBODY IS BETWEEN: then both runs are one. -/
theorem danger_snap {l : List Op3} (h : (chk l).2 = 0) (hp : pivL (runK 2 okS l l.length).of (runK 2 okS l l.length).done = false) : ∀ k, k ≤ l.length → runK 3 okBtw l k = runK 2 okS l k := by
  obtain ⟨_, h2, h3⟩ := (chk_iff l).1 h
  intro k
  induction k with
  | zero => exact fun _ => rfl
  | succ k ih =>
    intro hk
    show stepK 3 okBtw (runK 3 okBtw l k) (k : Int) (opAt l k) = stepK 2 okS (runK 2 okS l k) (k : Int) (opAt l k)
    rw [ih (by omega)]
    have hK := run_kOk 2 okS h k (by omega)
    have hnd := hK.free h3 (show k < l.length by omega)
    have hok : (opAt l k).2.1 = 3 → okBtw (runK 2 okS l k) (opAt l k).1 (nowK (runK 2 okS l k) k (opAt l k).1) = okS (runK 2 okS l k) (opAt l k).1 (nowK (runK 2 okS l k) k (opAt l k).1) := fun ho => by
      unfold okBtw
      rw [hit_same]
      show (okS (runK 2 okS l k) (opAt l k).1 (nowK (runK 2 okS l k) k (opAt l k).1) && !pivL _ _) = _
      cases hs : okS (runK 2 okS l k) (opAt l k).1 (nowK (runK 2 okS l k) k (opAt l k).1) with
      | false => rfl
      | true =>
        rw [Bool.true_and, piv_commit hK hnd ((hK.now _).2.2.2 hnd)]
        have hstep : runK 2 okS l (k + 1) = doneStep (runK 2 okS l k) k (opAt l k).1 := by
          show stepK 2 okS (runK 2 okS l k) (k : Int) (opAt l k) = _
          unfold stepK
          rw [if_neg (by omega), if_neg (by omega), if_pos ho, if_pos hs]
        cases hx : pivL (setF (runK 2 okS l k).of (opAt l k).1 { nowK (runK 2 okS l k) k (opAt l k).1 with ended := (k : Int) }) ((runK 2 okS l k).done ++ [(opAt l k).1]) with
        | false => rfl
        | true =>
          have hh : pivL (runK 2 okS l (k + 1)).of (runK 2 okS l (k + 1)).done = true := by
            rw [hstep]
            exact hx
          have := piv_keep 2 okS h (k + 1) (l.length - (k + 1)) (by omega) hh
          rw [show k + 1 + (l.length - (k + 1)) = l.length by omega, hp] at this
          cases this
    unfold stepK
    split
    · rfl
    · split
      · rfl
      · split
        · rename_i ho
          rw [hok ho]
        · rfl
/-- Of two that are done an edge leads to one that writes. -/
theorem anti_writes {t : Int} {a b : Dl} (h : antiB t a b = true) : b.wrote ≠ [] := fun e => by
  unfold antiB at h
  rw [e] at h
  simp at h
/-- WHERE ONE ALONE WRITES NOBODY IS BETWEEN. -/
theorem one_writes (kind : Int) (okF : Kst → Int → Dl → Bool) {l : List Op3} (h : (chk l).2 = 0) {tx : Int} (hw : ∀ o ∈ l, o.2.1 = 2 → o.1 = tx) : pivL (runK kind okF l l.length).of (runK kind okF l l.length).done = false := by
  have hK := run_kOk kind okF h l.length (Nat.le_refl _)
  have hwr := run_wr kind okF h l.length (Nat.le_refl _)
  rw [List.take_length] at hwr
  have only : ∀ t ∈ (runK kind okF l l.length).done, ((runK kind okF l l.length).of t).wrote ≠ [] → t = tx := fun t ht hne => by
    rw [hwr t (hK.comm t ht).1] at hne
    unfold wrL ofL at hne
    obtain ⟨x, hx⟩ := List.exists_mem_of_ne_nil _ hne
    obtain ⟨o, ho, _⟩ := List.mem_map.1 hx
    rw [List.mem_filter, List.mem_filter] at ho
    rw [← hw o ho.1.1 (by simpa using ho.2)]
    have := ho.1.2
    simp at this
    exact this.symm
  cases hx : pivL (runK kind okF l l.length).of (runK kind okF l l.length).done with
  | false => rfl
  | true =>
    exfalso
    unfold pivL intoAnti outAnti at hx
    obtain ⟨t, ht, h1⟩ := List.any_eq_true.1 hx
    rw [Bool.and_eq_true] at h1
    obtain ⟨u, hu, h2⟩ := List.any_eq_true.1 h1.1
    obtain ⟨v, hv, h3⟩ := List.any_eq_true.1 h1.2
    rw [Bool.and_eq_true] at h2 h3
    have e1 := only t ht (anti_writes h2.2)
    have e2 := only v hv (anti_writes h3.2)
    have := h3.1
    rw [e1, e2] at this
    simp at this
end Go.Proofs.Ytccjognnehoodag
