/-
  PROVED HERE: plain facts, with no word of the program: of deals that come one behind the other (each reads, writes, commits) all are done, looked at when they end, by what was when they began, with nobody between; with versions, if their numbers rise; each sees the one ahead of it, if that wrote what it reads; none ran at once with another one.
  Conditions: none.
  PROVED HERE: plain facts, with no word of the program: of deals that come one behind the other the runs of chapters 11, 12 and 13 come to one and the same: all are done, and none ran at once.
  Conditions: none.
-/
import Derived.Test.YtccjognnehoodagMgay
import Derived.Test.YtccjognnehoodagMgap
import Derived.Test.YtccjognnehoodagMgbf
import Derived.Test.YtccjognnehoodagMgat
import Derived.Test.YtccjognnehoodagMgba
namespace Go.Proofs.Ytccjognnehoodag

/-- Whom the deal at a place sees. -/
def prevS (a b : Int) (ps : List Int) (i : Nat) : Int := if a = b ∧ 0 < i then ps.getD (i - 1) 0 else 0
def serD (a b : Int) (ps : List Int) (i : Nat) : Dl := ⟨3 * (i : Int), 3 * (i : Int) + 2, [(ps.getD i 0, a, prevS a b ps i)], [b]⟩
/-- How things stand when the first j are done. -/
structure Ser (a b : Int) (ps : List Int) (j : Nat) (s : Kst) : Prop where
  done : s.done = ps.take j
  beg : ∀ t, s.beg t = true → t ∈ ps.take j
  of : ∀ i, i < j → s.of (ps.getD i 0) = serD a b ps i
  look : ∀ e ∈ s.looks, e.1 ∈ ps.take j
theorem ser0 (a b : Int) (ps : List Int) : Ser a b ps 0 kst0 := ⟨by simp [kst0], fun _ h => (by cases h), fun i h => (by omega), fun _ h => (by cases h)⟩
theorem take_mem {ps : List Int} {j : Nat} (hj : j ≤ ps.length) {t : Int} (h : t ∈ ps.take j) : ∃ i, i < j ∧ ps.getD i 0 = t := by
  obtain ⟨i, hi, e⟩ := List.getElem_of_mem h
  rw [List.length_take] at hi
  rw [List.getElem_take] at e
  exact ⟨i, by omega, by rw [← e]; simp [List.getD, List.getElem?_eq_getElem (show i < ps.length by omega)]⟩
theorem mem_take {ps : List Int} {i j : Nat} (hij : i < j) (hj : j ≤ ps.length) : ps.getD i 0 ∈ ps.take j := by
  have hi : i < ps.length := by omega
  have : ps.getD i 0 = (ps.take j)[i]'(by rw [List.length_take]; omega) := by
    rw [List.getElem_take]
    simp [List.getD, List.getElem?_eq_getElem hi]
  rw [this]
  exact List.getElem_mem _
theorem take_step {ps : List Int} {j : Nat} (hj : j < ps.length) : ps.take (j + 1) = ps.take j ++ [ps.getD j 0] := by
  rw [List.take_succ_eq_append_getElem hj]
  simp [List.getD, List.getElem?_eq_getElem hj]
theorem take_new {ps : List Int} (hn : ps.Nodup) {j : Nat} (hj : j < ps.length) : ps.getD j 0 ∉ ps.take j := fun h => by
  have := (List.take_sublist (j + 1) ps).nodup hn
  rw [take_step hj, List.nodup_append] at this
  exact this.2.2 _ h _ (List.mem_singleton.2 rfl) rfl
theorem now_begun {s : Kst} {k t : Int} (h : s.beg t = true) : nowK s k t = s.of t := if_pos h
section
variable {a b : Int} {ps : List Int} {j : Nat} {s : Kst}
theorem Ser.all (h : Ser a b ps j s) (hj : j ≤ ps.length) {t : Int} (ht : t ∈ s.done) : ∃ i, i < j ∧ ps.getD i 0 = t ∧ s.of t = serD a b ps i := by
  rw [h.done] at ht
  obtain ⟨i, hi, e⟩ := take_mem hj ht
  exact ⟨i, hi, e, by rw [← e]; exact h.of i hi⟩
theorem Ser.time (h : Ser a b ps j s) (hj : j ≤ ps.length) : ∀ t ∈ s.done, (s.of t).ended < 3 * (j : Int) := fun t ht => by
  obtain ⟨i, hi, _, e⟩ := h.all hj ht
  rw [e]
  show 3 * (i : Int) + 2 < 3 * (j : Int)
  omega
/-- Who wrote last. -/
theorem Ser.last (h : Ser a b ps j s) (hj : j ≤ ps.length) : lastK s.of s.done a = prevS a b ps j := by
  have hin : ∀ t ∈ s.done, inB (s.of t).wrote a = decide (a = b) := fun t ht => by
    obtain ⟨i, _, _, e⟩ := h.all hj ht
    rw [e]
    simp [serD, inB]
  cases j with
  | zero => rw [h.done]; simp [lastK, prevS]
  | succ j =>
    have hj' : j < ps.length := by omega
    have hd := h.done
    rw [take_step hj'] at hd
    rw [hd, lastK_snoc, hin _ (by rw [hd]; simp)]
    unfold prevS
    by_cases e : a = b
    · simp [e]
    · have : lastK s.of (ps.take j) a = 0 := by
        unfold lastK
        have H : ∀ (d : List Int), (∀ t ∈ d, inB (s.of t).wrote a = false) → d.foldl (fun f t => if inB (s.of t).wrote a = true then t else f) 0 = 0 := fun d => by
          induction d with
          | nil => exact fun _ => rfl
          | cons x d ih =>
            intro hx
            rw [List.foldl_cons, hx x (List.mem_cons_self ..), if_neg (by decide)]
            exact ih fun t ht => hx t (List.mem_cons_of_mem _ ht)
        exact H _ fun t ht => by rw [hin t (by rw [hd]; exact List.mem_append_left _ ht), decide_eq_false e]
      rw [this]
      simp [e]
/-- One more. -/
theorem Ser.piece {kind : Int} {okF : Kst → Int → Dl → Bool} (h : Ser a b ps j s) (hn : ps.Nodup) (hj : j < ps.length)
    (hfrom : fromK kind s (3 * (j : Int)) ⟨3 * (j : Int), -1, [], []⟩ (ps.getD j 0) a = prevS a b ps j)
    (hok : ∀ lk, (∀ e ∈ lk, e.1 ∈ ps.take j ∨ e.1 = ps.getD j 0) → okF ⟨s.done, setF (setF s.of (ps.getD j 0) ⟨3 * (j : Int), -1, [(ps.getD j 0, a, prevS a b ps j)], []⟩) (ps.getD j 0) ⟨3 * (j : Int), -1, [(ps.getD j 0, a, prevS a b ps j)], [b]⟩, setF (setF s.beg (ps.getD j 0) true) (ps.getD j 0) true, lk⟩ (ps.getD j 0) ⟨3 * (j : Int), -1, [(ps.getD j 0, a, prevS a b ps j)], [b]⟩ = true) :
    Ser a b ps (j + 1) (stepK kind okF (stepK kind okF (stepK kind okF s (3 * (j : Int)) (ps.getD j 0, 1, a)) (3 * (j : Int) + 1) (ps.getD j 0, 2, b)) (3 * (j : Int) + 2) (ps.getD j 0, 3, 0)) := by
  have hnew := take_new hn hj
  have hbeg : s.beg (ps.getD j 0) = false := by
    cases hx : s.beg (ps.getD j 0) with
    | false => rfl
    | true => exact absurd (h.beg _ hx) hnew
  have n0 : nowK s (3 * (j : Int)) (ps.getD j 0) = ⟨3 * (j : Int), -1, [], []⟩ := by unfold nowK; rw [hbeg, if_neg (by decide)]
  generalize hlk : (if kind = 4 ∧ inB ([] : List Int) a = false then s.looks ++ [(ps.getD j 0, a, prevS a b ps j)] else s.looks) = lk
  have hl : ∀ e ∈ lk, e.1 ∈ ps.take j ∨ e.1 = ps.getD j 0 := fun e he => by
    rw [← hlk] at he
    split at he
    · rcases List.mem_append.1 he with he | he
      · exact Or.inl (h.look e he)
      · rw [List.mem_singleton.1 he]; exact Or.inr rfl
    · exact Or.inl (h.look e he)
  have e1 : stepK kind okF s (3 * (j : Int)) (ps.getD j 0, 1, a) = ⟨s.done, setF s.of (ps.getD j 0) ⟨3 * (j : Int), -1, [(ps.getD j 0, a, prevS a b ps j)], []⟩, setF s.beg (ps.getD j 0) true, lk⟩ := by
    unfold stepK
    rw [if_pos rfl]
    unfold readStep
    dsimp only
    rw [n0, hfrom]
    dsimp only
    rw [hlk]
    rfl
  rw [e1]
  have n1 : nowK ⟨s.done, setF s.of (ps.getD j 0) ⟨3 * (j : Int), -1, [(ps.getD j 0, a, prevS a b ps j)], []⟩, setF s.beg (ps.getD j 0) true, lk⟩ (3 * (j : Int) + 1) (ps.getD j 0) = ⟨3 * (j : Int), -1, [(ps.getD j 0, a, prevS a b ps j)], []⟩ :=
    (now_begun (setF_same _ _ _)).trans (setF_same _ _ _)
  have e2 : stepK kind okF ⟨s.done, setF s.of (ps.getD j 0) ⟨3 * (j : Int), -1, [(ps.getD j 0, a, prevS a b ps j)], []⟩, setF s.beg (ps.getD j 0) true, lk⟩ (3 * (j : Int) + 1) (ps.getD j 0, 2, b) = ⟨s.done, setF (setF s.of (ps.getD j 0) ⟨3 * (j : Int), -1, [(ps.getD j 0, a, prevS a b ps j)], []⟩) (ps.getD j 0) ⟨3 * (j : Int), -1, [(ps.getD j 0, a, prevS a b ps j)], [b]⟩, setF (setF s.beg (ps.getD j 0) true) (ps.getD j 0) true, lk⟩ := by
    unfold stepK
    rw [if_neg (show ¬ (2 : Int) = 1 by decide), if_pos rfl]
    unfold writeStep
    rw [n1]
    rfl
  rw [e2]
  have hok' := hok lk hl
  unfold stepK
  rw [if_neg (show ¬ (3 : Int) = 1 by decide), if_neg (show ¬ (3 : Int) = 2 by decide), if_pos rfl]
  have n2 : nowK ⟨s.done, setF (setF s.of (ps.getD j 0) ⟨3 * (j : Int), -1, [(ps.getD j 0, a, prevS a b ps j)], []⟩) (ps.getD j 0) ⟨3 * (j : Int), -1, [(ps.getD j 0, a, prevS a b ps j)], [b]⟩, setF (setF s.beg (ps.getD j 0) true) (ps.getD j 0) true, lk⟩ (3 * (j : Int) + 2) (ps.getD j 0) = ⟨3 * (j : Int), -1, [(ps.getD j 0, a, prevS a b ps j)], [b]⟩ :=
    (now_begun (setF_same _ _ _)).trans (setF_same _ _ _)
  dsimp only
  rw [n2, hok', if_pos rfl]
  unfold doneStep
  rw [n2]
  refine ⟨?_, fun t ht => ?_, fun i hi => ?_, fun e he => ?_⟩
  · show s.done ++ [ps.getD j 0] = _
    rw [take_step hj, h.done]
  · have ht' : setF (setF (setF s.beg (ps.getD j 0) true) (ps.getD j 0) true) (ps.getD j 0) true t = true := ht
    rw [take_step hj]
    by_cases e : t = ps.getD j 0
    · rw [e]; exact List.mem_append_right _ (List.mem_singleton.2 rfl)
    · rw [setF_other _ _ e, setF_other _ _ e, setF_other _ _ e] at ht'
      exact List.mem_append_left _ (h.beg t ht')
  · show setF (setF (setF s.of (ps.getD j 0) _) (ps.getD j 0) _) (ps.getD j 0) _ (ps.getD i 0) = serD a b ps i
    by_cases e : i = j
    · subst e
      rw [setF_same]
      rfl
    · have hne : ps.getD i 0 ≠ ps.getD j 0 := fun e' => hnew (by rw [← e']; exact mem_take (by omega) (by omega))
      rw [setF_other _ _ hne, setF_other _ _ hne, setF_other _ _ hne]
      exact h.of i (by omega)
  · rw [take_step hj]
    rcases hl e he with hh | hh
    · exact List.mem_append_left _ hh
    · rw [hh]; exact List.mem_append_right _ (List.mem_singleton.2 rfl)
end
theorem run_piece (kind : Int) (okF : Kst → Int → Dl → Bool) (a b : Int) (ps : List Int) (j : Nat) (hj : j < ps.length) : runK kind okF (piecesL a b ps) (3 * (j + 1)) = stepK kind okF (stepK kind okF (stepK kind okF (runK kind okF (piecesL a b ps) (3 * j)) (3 * (j : Int)) (ps.getD j 0, 1, a)) (3 * (j : Int) + 1) (ps.getD j 0, 2, b)) (3 * (j : Int) + 2) (ps.getD j 0, 3, 0) := by
  obtain ⟨h1, h2, h3⟩ := pieces_at a b ps j hj
  show stepK kind okF (stepK kind okF (stepK kind okF (runK kind okF (piecesL a b ps) (3 * j)) ((3 * j : Nat) : Int) (opAt (piecesL a b ps) (3 * j))) ((3 * j + 1 : Nat) : Int) (opAt (piecesL a b ps) (3 * j + 1))) ((3 * j + 2 : Nat) : Int) (opAt (piecesL a b ps) (3 * j + 2)) = _
  rw [h1, h2, h3, show ((3 * j : Nat) : Int) = 3 * (j : Int) by omega, show ((3 * j + 1 : Nat) : Int) = 3 * (j : Int) + 1 by omega, show ((3 * j + 2 : Nat) : Int) = 3 * (j : Int) + 2 by omega]
/-- Of whom all are done ahead nobody hits. -/
theorem Ser.hit {a b : Int} {ps : List Int} {j : Nat} {s : Kst} (h : Ser a b ps j s) (hj : j ≤ ps.length) (kind : Int) {s' : Kst} (hd : s'.done = s.done) (ho : ∀ t ∈ s.done, s'.of t = s.of t) (t : Int) {r : Dl} (hr : r.began = 3 * (j : Int)) : hitK kind s' t r = false := by
  cases hx : hitK kind s' t r with
  | false => rfl
  | true =>
    exfalso
    unfold hitK at hx
    rw [hd] at hx
    obtain ⟨i, hi, h1⟩ := List.any_eq_true.1 hx
    obtain ⟨item, _, h2⟩ := List.any_eq_true.1 h1
    rw [Bool.and_eq_true, ho i hi, hr] at h2
    have := h.time hj i hi
    have := of_decide_eq_true h2.1
    omega
theorem set_old {of : Int → Dl} {ds : List Int} {t : Int} (h : t ∉ ds) (r r' : Dl) : ∀ u ∈ ds, setF (setF of t r) t r' u = of u := fun u hu => by
  have e : u ≠ t := fun e => h (e ▸ hu)
  rw [setF_other _ _ e, setF_other _ _ e]
theorem okV_of {s : Kst} {t : Int} {r : Dl} (h : hitK 1 s t r = false) : okV s t r = true := by unfold okV; rw [h]; rfl
theorem okS_of {s : Kst} {t : Int} {r : Dl} (h : hitK 2 s t r = false) : okS s t r = true := by unfold okS; rw [h]; rfl
/-- Looked at when they end. -/
theorem ser_valid {a b : Int} {ps : List Int} (hn : ps.Nodup) : ∀ j, j ≤ ps.length → Ser a b ps j (runK 1 okV (piecesL a b ps) (3 * j)) := by
  intro j
  induction j with
  | zero => exact fun _ => ser0 a b ps
  | succ j ih =>
    intro hj
    have h := ih (by omega)
    have hnew : ps.getD j 0 ∉ (runK 1 okV (piecesL a b ps) (3 * j)).done := by rw [h.done]; exact take_new hn (by omega)
    rw [run_piece _ _ _ _ _ _ (by omega)]
    refine h.piece hn (by omega) ?_ fun lk _ => ?_
    · show whoK _ _ a (3 * (j : Int)) 0 = _
      rw [who_last (h.time (by omega))]
      exact h.last (by omega)
    · have hh := h.hit (by omega) 1 (s' := ⟨(runK 1 okV (piecesL a b ps) (3 * j)).done, setF (setF (runK 1 okV (piecesL a b ps) (3 * j)).of (ps.getD j 0) ⟨3 * (j : Int), -1, [(ps.getD j 0, a, prevS a b ps j)], []⟩) (ps.getD j 0) ⟨3 * (j : Int), -1, [(ps.getD j 0, a, prevS a b ps j)], [b]⟩, setF (setF (runK 1 okV (piecesL a b ps) (3 * j)).beg (ps.getD j 0) true) (ps.getD j 0) true, lk⟩) rfl (set_old hnew _ _) (ps.getD j 0) (r := ⟨3 * (j : Int), -1, [(ps.getD j 0, a, prevS a b ps j)], [b]⟩) rfl
      exact okV_of hh
/-- By what was when they began. -/
theorem ser_snap {a b : Int} {ps : List Int} (hn : ps.Nodup) : ∀ j, j ≤ ps.length → Ser a b ps j (runK 2 okS (piecesL a b ps) (3 * j)) := by
  intro j
  induction j with
  | zero => exact fun _ => ser0 a b ps
  | succ j ih =>
    intro hj
    have h := ih (by omega)
    have hnew : ps.getD j 0 ∉ (runK 2 okS (piecesL a b ps) (3 * j)).done := by rw [h.done]; exact take_new hn (by omega)
    rw [run_piece _ _ _ _ _ _ (by omega)]
    refine h.piece hn (by omega) ?_ fun lk _ => ?_
    · show whoK _ _ a (3 * (j : Int)) 0 = _
      rw [who_last (h.time (by omega))]
      exact h.last (by omega)
    · have hh := h.hit (by omega) 2 (s' := ⟨(runK 2 okS (piecesL a b ps) (3 * j)).done, setF (setF (runK 2 okS (piecesL a b ps) (3 * j)).of (ps.getD j 0) ⟨3 * (j : Int), -1, [(ps.getD j 0, a, prevS a b ps j)], []⟩) (ps.getD j 0) ⟨3 * (j : Int), -1, [(ps.getD j 0, a, prevS a b ps j)], [b]⟩, setF (setF (runK 2 okS (piecesL a b ps) (3 * j)).beg (ps.getD j 0) true) (ps.getD j 0) true, lk⟩) rfl (set_old hnew _ _) (ps.getD j 0) (r := ⟨3 * (j : Int), -1, [(ps.getD j 0, a, prevS a b ps j)], [b]⟩) rfl
      exact okS_of hh
/-- None ran at once with another one. -/
theorem Ser.once {a b : Int} {ps : List Int} {j : Nat} {s : Kst} (h : Ser a b ps j s) (hj : j ≤ ps.length) {t u : Int} (ht : t ∈ s.done) (hu : u ∈ s.done) (hne : t ≠ u) : onceK (s.of t) (s.of u) = false := by
  obtain ⟨i, _, e1, e2⟩ := h.all hj ht
  obtain ⟨k, _, d1, d2⟩ := h.all hj hu
  have hik : i ≠ k := fun e => hne (by rw [← e1, ← d1, e])
  rw [e2, d2]
  unfold onceK serD
  dsimp only
  cases hx : ((decide (3 * (k : Int) + 2 < 0) || decide (3 * (i : Int) < 3 * (k : Int) + 2)) && (decide (3 * (i : Int) + 2 < 0) || decide (3 * (k : Int) < 3 * (i : Int) + 2))) with
  | false => rfl
  | true =>
    simp at hx
    omega
theorem Ser.piv {a b : Int} {ps : List Int} {j : Nat} {s : Kst} (h : Ser a b ps j s) (hj : j ≤ ps.length) : pivL s.of s.done = false := by
  cases hx : pivL s.of s.done with
  | false => rfl
  | true =>
    exfalso
    unfold pivL outAnti at hx
    obtain ⟨t, ht, h1⟩ := List.any_eq_true.1 hx
    rw [Bool.and_eq_true] at h1
    obtain ⟨u, hu, h2⟩ := List.any_eq_true.1 h1.2
    rw [Bool.and_eq_true] at h2
    have hne : t ≠ u := fun e => by have := h2.1; simp [e] at this
    have h3 := h2.2
    unfold antiB at h3
    rw [h.once hj ht hu hne] at h3
    cases h3
/-- With nobody between: both runs are one. -/
theorem ser_danger {a b : Int} (ha : 1 ≤ a ∧ a ≤ 6) (hb : 1 ≤ b ∧ b ≤ 6) {ps : List Int} (hd : Deals1 ps) : runK 3 okBtw (piecesL a b ps) (piecesL a b ps).length = runK 2 okS (piecesL a b ps) (piecesL a b ps).length := by
  refine danger_snap (pieces_chk ha hb hd) ?_ _ (Nat.le_refl _)
  rw [pieces_len]
  exact (ser_snap hd.once ps.length (Nat.le_refl _)).piv (Nat.le_refl _)
/-- With versions, if their numbers rise. -/
theorem ser_vers {a b : Int} {ps : List Int} (hr : ps.Pairwise (· < ·)) (h1 : ∀ t ∈ ps, 1 ≤ t) : ∀ j, j ≤ ps.length → Ser a b ps j (runK 4 okN (piecesL a b ps) (3 * j)) := by
  have hn : ps.Nodup := hr.imp fun {a b} hab e => by omega
  intro j
  induction j with
  | zero => exact fun _ => ser0 a b ps
  | succ j ih =>
    intro hj
    have h := ih (by omega)
    have hlt : ∀ t ∈ ps.take j, t < ps.getD j 0 := fun t ht => by
      have hp := hr.sublist (List.take_sublist (j + 1) ps)
      rw [take_step (by omega)] at hp
      exact (List.pairwise_append.1 hp).2.2 t ht _ (List.mem_singleton.2 rfl)
    have htj : 1 ≤ ps.getD j 0 := h1 _ (List.mem_of_mem_take (mem_take (j := j + 1) (Nat.lt_succ_self j) hj))
    rw [run_piece _ _ _ _ _ _ (by omega)]
    refine h.piece hn (by omega) ?_ fun lk hlk => ?_
    · show whoK _ _ a (3 * (j : Int)) (ps.getD j 0) = _
      rw [who_top htj (h.time (by omega)), ← h.last (by omega)]
      have hrise : (runK 4 okN (piecesL a b ps) (3 * j)).done.Pairwise (· < ·) := by rw [h.done]; exact hr.sublist (List.take_sublist _ _)
      have hpos : ∀ u ∈ (runK 4 okN (piecesL a b ps) (3 * j)).done, 1 ≤ u := fun u hu => h1 u (by rw [h.done] at hu; exact List.mem_of_mem_take hu)
      refine top_uniq (fun u hu => hpos u hu.1) (topK_top _ _ _ _) ?_
      have h2 := lastK_top (runK 4 okN (piecesL a b ps) (3 * j)).of a hrise hpos
      refine ⟨?_, fun u hu => h2.2 u ⟨hu.1, hu.2.2⟩⟩
      rcases h2.1 with e | e
      · exact Or.inl e
      · exact Or.inr ⟨e.1, hlt _ (h.done ▸ e.1), e.2⟩
    · unfold okN
      cases hx : pastK _ (ps.getD j 0) ⟨3 * (j : Int), -1, [(ps.getD j 0, a, prevS a b ps j)], [b]⟩ with
      | false => rfl
      | true =>
        exfalso
        unfold pastK at hx
        obtain ⟨e, he, h2⟩ := List.any_eq_true.1 hx
        rw [Bool.and_eq_true, Bool.and_eq_true] at h2
        have h3 := of_decide_eq_true h2.2.1
        rcases hlk e he with hh | hh
        · have := hlt _ hh
          omega
        · omega
end Go.Proofs.Ytccjognnehoodag

namespace Go.Proofs.Ytccjognnehoodag

theorem seenL_congr {of of' : Int → Dl} : ∀ {ds : List Int}, (∀ t ∈ ds, of t = of' t) → seenL of ds = seenL of' ds := by
  intro ds
  induction ds with
  | nil => intro _; rfl
  | cons t r ih =>
    intro h
    have e : ∀ f : Int → Dl, seenL f (t :: r) = (f t).seen ++ seenL f r := fun f => by unfold seenL; rw [List.flatMap_cons]
    rw [e, e, h t List.mem_cons_self, ih fun u hu => h u (List.mem_cons_of_mem _ hu)]
theorem lastL_congr {of of' : Int → Dl} {ds : List Int} (h : ∀ t ∈ ds, of t = of' t) : lastL of ds = lastL of' ds := by
  unfold lastL
  congr 1
  funext i
  unfold lastF6
  exact lastK_congr h _
theorem ser_alike {a b : Int} {ps : List Int} {s s' : Kst} (h : Ser a b ps ps.length s) (h' : Ser a b ps ps.length s') : s.done = ps ∧ s'.done = ps ∧ ∀ t ∈ ps, s.of t = s'.of t := by
  have e1 := h.done
  have e2 := h'.done
  rw [List.take_length] at e1 e2
  refine ⟨e1, e2, fun t ht => ?_⟩
  obtain ⟨i, hi, e⟩ := take_mem (Nat.le_refl _) (by rw [List.take_length]; exact ht : t ∈ ps.take ps.length)
  rw [← e, h.of i hi, h'.of i hi]
/-- All three runs come to the same. -/
theorem ru_out {a b : Int} (ha : 1 ≤ a ∧ a ≤ 6) (hb : 1 ≤ b ∧ b ≤ 6) {ps : List Int} (hd : Deals1 ps) :
    outU 2 okS false (piecesL a b ps) = outU 1 okV false (piecesL a b ps) ∧ outU 3 okBtw false (piecesL a b ps) = outU 1 okV false (piecesL a b ps) ∧ (outU 1 okV false (piecesL a b ps)).1.1 = ps ∧ (outU 1 okV false (piecesL a b ps)).2 = 0 ∧
      (if (chk (piecesL a b ps)).2 ≠ 0 then [] else togL (runK 2 okS (piecesL a b ps) (piecesL a b ps).length).of (runK 2 okS (piecesL a b ps) (piecesL a b ps).length).done) = [] := by
  have hc := pieces_chk ha hb hd
  have hl := pieces_len a b ps
  have h1 := ser_valid (a := a) (b := b) hd.once ps.length (Nat.le_refl _)
  have h2 := ser_snap (a := a) (b := b) hd.once ps.length (Nat.le_refl _)
  rw [← hl] at h1 h2
  obtain ⟨e1, e2, e3⟩ := ser_alike h1 h2
  have o1 : outU 2 okS false (piecesL a b ps) = outU 1 okV false (piecesL a b ps) := by
    rw [outU_ok hc, outU_ok hc]
    show ((_, _, _), _) = ((_, _, _), _)
    have q1 : ordN false (runK 1 okV (piecesL a b ps) (piecesL a b ps).length).done = ps := e1
    have q2 : ordN false (runK 2 okS (piecesL a b ps) (piecesL a b ps).length).done = ps := e2
    rw [q1, q2, seenL_congr fun t ht => (e3 t ht).symm, lastL_congr fun t ht => (e3 t ht).symm]
  refine ⟨o1, ?_, ?_, ?_, ?_⟩
  · rw [← o1, outU_ok hc, outU_ok hc, ser_danger ha hb hd]
  · rw [outU_ok hc]; exact e1
  · rw [outU_ok hc]
  · rw [if_neg (by simpa using hc)]
    unfold togL
    refine List.filter_eq_nil_iff.2 fun e _ hf => ?_
    unfold togB at hf
    simp only [Bool.and_eq_true, decide_eq_true_eq] at hf
    have := h2.once (Nat.le_refl _) (inB_iff.1 hf.1.1) (inB_iff.1 hf.1.2) (by omega)
    rw [this] at hf
    exact absurd hf.2.2 (by decide)
end Go.Proofs.Ytccjognnehoodag
