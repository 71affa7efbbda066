/-
  PROVED HERE: plain facts, with no word of the program: of what is done there are as many pieces as deals just if each piece ends with a commit.
  Conditions: none.
  PROVED HERE: plain facts on lists, with no word of the program: edges put in one by one, sorted and each once, are the same list as the possible edges, in order, of which only those are kept that are there.
  Conditions: none.
-/
import Derived.Test.YtjcaekhkeobhpahDoorMgal
import Derived.Test.YtjcaekhkeobhpahDoorMgae
import Derived.Test.YtjcaekhkeobhpahDoorMgak
namespace Go.Proofs.YtjcaekhkeobhpahDoor

/-- An op of another deal than the one ahead of it, which is no commit. -/
def badAt (d : List Op3) (i : Nat) : Bool := (opAt d i).1 != (opAt d (i - 1)).1 && (opAt d (i - 1)).2.1 != 3
def badTo (d : List Op3) : Nat → Nat
  | 0 => 0
  | n + 1 => badTo d n + if n ≠ 0 ∧ badAt d n = true then 1 else 0
def runsTo (d : List Op3) : Nat → Nat
  | 0 => 0
  | n + 1 => runsTo d n + if n = 0 ∨ (opAt d n).1 ≠ (opAt d (n - 1)).1 then 1 else 0
def comTo (d : List Op3) (n : Nat) : Nat := ((d.take n).filter fun o => o.2.1 == 3).length
/-- Is each deal in one piece? -/
def serB (d : List Op3) : Bool := decide (badTo d d.length = 0)
theorem badTo_one (d : List Op3) : badTo d 1 = 0 := by simp [badTo]
theorem badTo_le (d : List Op3) {n m : Nat} (h : n ≤ m) : badTo d n ≤ badTo d m := by
  induction m with
  | zero => rw [show n = 0 by omega]; exact Nat.le_refl _
  | succ m ih =>
    rcases Nat.lt_or_ge m n with h2 | h2
    · rw [show n = m + 1 by omega]; exact Nat.le_refl _
    · have := ih h2
      simp only [badTo]
      omega
theorem badTo_no {d : List Op3} {n : Nat} (h : badAt d n = false) : badTo d (n + 1) = badTo d n := by simp [badTo, h]
theorem serB_no {d : List Op3} {n : Nat} (hn : n ≠ 0) (hl : n < d.length) (h : badAt d n = true) : serB d = false := by
  have h1 := badTo_le d (show n + 1 ≤ d.length by omega)
  have h2 : badTo d (n + 1) = badTo d n + 1 := by simp [badTo, h, hn]
  unfold serB
  exact decide_eq_false (by omega)
theorem runsTo_le (d : List Op3) (n : Nat) : runsTo d n ≤ n := by
  induction n with
  | zero => exact Nat.le_refl _
  | succ n ih =>
    simp only [runsTo]
    split <;> omega
theorem opAt_get {d : List Op3} {i : Nat} (h : i < d.length) : opAt d i = d[i] := by
  unfold opAt
  simp [List.getD, List.getElem?_eq_getElem h]
theorem calm_at {d : List Op3} (hc : Calm d) {i j : Nat} (hij : i < j) (hj : j < d.length) (h3 : (opAt d i).2.1 = 3) : (opAt d i).1 ≠ (opAt d j).1 := by
  intro e
  have := List.pairwise_iff_getElem.1 hc i j (by omega) hj hij
  rw [opAt_get (by omega)] at e h3
  rw [opAt_get hj] at e
  exact this ⟨e, by rw [h3]; rfl⟩
theorem comTo_succ {d : List Op3} {n : Nat} (h : n < d.length) : comTo d (n + 1) = comTo d n + if (opAt d n).2.1 = 3 then 1 else 0 := by
  unfold comTo
  rw [List.take_succ_eq_append_getElem h, List.filter_append, List.length_append, opAt_get h]
  by_cases h3 : d[n].2.1 = 3
  · simp [h3]
  · simp [h3]
theorem runs_count {d : List Op3} (hc : Calm d) : ∀ n, n + 1 ≤ d.length → runsTo d (n + 1) = comTo d n + badTo d (n + 1) + 1 := by
  intro n
  induction n with
  | zero => intro _; simp [runsTo, badTo, comTo]
  | succ n ih =>
    intro hn
    have h1 := ih (by omega)
    have e1 : runsTo d (n + 1 + 1) = runsTo d (n + 1) + if n + 1 = 0 ∨ (opAt d (n + 1)).1 ≠ (opAt d (n + 1 - 1)).1 then 1 else 0 := rfl
    have e2 : badTo d (n + 1 + 1) = badTo d (n + 1) + if n + 1 ≠ 0 ∧ badAt d (n + 1) = true then 1 else 0 := rfl
    rw [e1, e2, h1, comTo_succ (by omega), Nat.add_sub_cancel]
    have hk := calm_at hc (show n < n + 1 by omega) (show n + 1 < d.length by omega)
    unfold badAt
    rw [Nat.add_sub_cancel]
    by_cases h3 : (opAt d n).2.1 = 3
    · have := hk h3
      have h4 : (opAt d (n + 1)).1 ≠ (opAt d n).1 := fun e => this e.symm
      simp [h3, h4]
      omega
    · by_cases h4 : (opAt d (n + 1)).1 = (opAt d n).1
      · simp [h3, h4]
      · simp [h3, h4]
        omega
/-- What is done: right, and each of its deals commits. -/
structure Doing (d : List Op3) : Prop where
  calm : Calm d
  deal : ∀ o ∈ d, 1 ≤ o.1 ∧ o.1 ≤ 6
  ends : ∀ o ∈ d, ∃ p ∈ d, p.1 = o.1 ∧ p.2.1 = 3
theorem doing_done {l : List Op3} (h : (chk l).2 = 0) : Doing (doneL l) where
  calm := ((chk_iff _).1 (chk_done h)).2.2
  deal := fun o ho => isOp_tx (chk_ops (chk_done h) o ho)
  ends := fun o ho => by
    have ht := isOp_tx (chk_ops (chk_done h) o ho)
    have h1 : commIn (doneL l) o.1.toNat = true := by
      rw [commIn_done]
      exact (List.mem_filter.1 ho).2
    unfold commIn at h1
    obtain ⟨p, hp, h2⟩ := List.any_eq_true.1 h1
    simp only [Bool.and_eq_true, beq_iff_eq] at h2
    exact ⟨p, hp, by omega, h2.2⟩
theorem Doing.last {d : List Op3} (h : Doing d) {n : Nat} (hn : d.length = n + 1) : (opAt d n).2.1 = 3 := by
  obtain ⟨p, hp, h1, h2⟩ := h.ends (opAt d n) (opAt_mem (by omega))
  obtain ⟨j, hj, rfl⟩ := List.getElem_of_mem hp
  by_cases e : j = n
  · subst e; rw [opAt_get (by omega)]; exact h2
  · have := calm_at h.calm (show j < n by omega) (show n < d.length by omega) (by rw [opAt_get hj]; exact h2)
    rw [opAt_get hj] at this
    exact absurd h1 this
theorem Doing.coms {d : List Op3} (h : Doing d) : comTo d d.length = (dealsL d).length := by
  have hmem : ∀ x, x ∈ (d.filter fun o => o.2.1 == 3).map (·.1) ↔ x ∈ dealsL d := fun x => by
    rw [mem_deals, hasB_iff, List.mem_map]
    constructor
    · rintro ⟨o, ho, rfl⟩
      have hm := (List.mem_filter.1 ho).1
      exact ⟨(h.deal o hm).1, (h.deal o hm).2, o, hm, rfl⟩
    · rintro ⟨_, _, o, ho, rfl⟩
      obtain ⟨p, hp, h1, h2⟩ := h.ends o ho
      exact ⟨p, List.mem_filter.2 ⟨hp, by simp [h2]⟩, h1⟩
  have hn : ((d.filter fun o => o.2.1 == 3).map (·.1)).Nodup := by
    rw [List.nodup_iff_pairwise_ne, List.pairwise_map]
    refine List.Pairwise.imp_of_mem (fun {a b} ha _ hab => ?_) (h.calm.sublist List.filter_sublist)
    have h3 := (List.mem_filter.1 ha).2
    intro e
    exact hab ⟨e, by rw [show a.2.1 = 3 by simpa using h3]; rfl⟩
  have h1 := hn.length_le_of_subset (l₂ := dealsL d) fun x hx => (hmem x).1 hx
  have h2 := (rise_nodup (dealsL_rise d)).length_le_of_subset (l₂ := (d.filter fun o => o.2.1 == 3).map (·.1)) fun x hx => (hmem x).2 hx
  unfold comTo
  rw [List.take_length]
  rw [List.length_map] at h1 h2
  omega
theorem Doing.runs {d : List Op3} (h : Doing d) : runsTo d d.length = (dealsL d).length + badTo d d.length := by
  cases hn : d.length with
  | zero =>
    have e : d = [] := List.length_eq_zero_iff.1 hn
    subst e; rfl
  | succ n =>
    rw [runs_count h.calm n (by omega), ← h.coms, hn, comTo_succ (by omega), if_pos (h.last hn)]
    omega
theorem Doing.ser {d : List Op3} (h : Doing d) : (((runsTo d d.length : Nat) : Int) == ((dealsL d).length : Int)) = serB d := by
  rw [h.runs]
  unfold serB
  rw [Bool.eq_iff_iff, beq_iff_eq, decide_eq_true_iff]
  omega
end Go.Proofs.YtjcaekhkeobhpahDoor

namespace Go.Proofs.YtjcaekhkeobhpahDoor

def ltB (a x : Edge2) : Bool := decide (a.1 < x.1) || (a.1 == x.1 && decide (a.2 < x.2))
theorem ltB_iff {a x : Edge2} : ltB a x = true ↔ (a.1 < x.1 ∨ a.1 = x.1 ∧ a.2 < x.2) := by simp [ltB]
def Rise (l : List Edge2) : Prop := l.Pairwise fun a b => ltB a b = true
/-- Put an edge into some that rise, once. -/
def addE : List Edge2 → Edge2 → List Edge2
  | [], x => [x]
  | a :: r, x => if ltB a x = true then a :: addE r x else if a = x then a :: r else x :: a :: r
/-- How many stand ahead of it. -/
def leadE : List Edge2 → Edge2 → Nat
  | [], _ => 0
  | a :: r, x => if ltB a x = true then leadE r x + 1 else 0
theorem leadE_le (l : List Edge2) (x : Edge2) : leadE l x ≤ l.length := by
  induction l with
  | nil => simp [leadE]
  | cons a r ih => simp only [leadE]; split <;> simp; omega
theorem leadE_before (l : List Edge2) (x : Edge2) : ∀ k, k < leadE l x → ltB (l.getD k (0, 0)) x = true := by
  induction l with
  | nil => intro k hk; simp [leadE] at hk
  | cons a r ih =>
    intro k hk
    simp only [leadE] at hk
    split at hk
    · rename_i h
      cases k with
      | zero => simpa using h
      | succ k => simpa using ih k (by omega)
    · omega
theorem leadE_at (l : List Edge2) (x : Edge2) : leadE l x < l.length → ltB (l.getD (leadE l x) (0, 0)) x = false := by
  induction l with
  | nil => intro h; simp at h
  | cons a r ih =>
    intro h
    simp only [leadE] at h ⊢
    split
    · rename_i h1
      rw [if_pos h1] at h
      simpa using ih (by simpa using h)
    · rename_i h1
      simpa using h1
theorem leadE_eq (l : List Edge2) (x : Edge2) (k : Nat) (hk : k ≤ l.length) (h1 : ∀ j, j < k → ltB (l.getD j (0, 0)) x = true) (h2 : k < l.length → ltB (l.getD k (0, 0)) x = false) : leadE l x = k := by
  rcases Nat.lt_trichotomy (leadE l x) k with h | h | h
  · have h3 := leadE_at l x (by omega)
    rw [h1 _ h] at h3; cases h3
  · exact h
  · have h3 := leadE_before l x k h
    rw [h2 (by have := leadE_le l x; omega)] at h3; cases h3
theorem addE_there (l : List Edge2) (x : Edge2) : leadE l x < l.length → l.getD (leadE l x) (0, 0) = x → addE l x = l := by
  induction l with
  | nil => intro h; simp at h
  | cons a r ih =>
    intro h h2
    simp only [leadE] at h h2
    simp only [addE]
    split
    · rename_i h1
      rw [if_pos h1] at h h2
      rw [ih (by simpa using h) (by simpa using h2)]
    · rename_i h1
      rw [if_neg h1] at h2
      rw [if_pos (by simpa using h2)]
theorem addE_new (l : List Edge2) (x : Edge2) : (leadE l x < l.length → l.getD (leadE l x) (0, 0) ≠ x) → addE l x = l.take (leadE l x) ++ [x] ++ l.drop (leadE l x) := by
  induction l with
  | nil => intro _; simp [addE, leadE]
  | cons a r ih =>
    intro h
    simp only [leadE] at h ⊢
    simp only [addE]
    split
    · rename_i h1
      rw [if_pos h1] at h
      rw [ih fun h3 h4 => h (by simpa using h3) (by simpa using h4)]
      simp
    · rename_i h1
      rw [if_neg h1] at h
      rw [if_neg fun h4 => h (by simp) (by simpa using h4)]
      simp
theorem addE_mem (l : List Edge2) (x y : Edge2) : y ∈ addE l x ↔ y = x ∨ y ∈ l := by
  induction l with
  | nil => simp [addE]
  | cons a r ih =>
    simp only [addE]
    split
    · simp only [List.mem_cons, ih]
      constructor
      · rintro (h | h | h)
        · exact .inr (.inl h)
        · exact .inl h
        · exact .inr (.inr h)
      · rintro (h | h | h)
        · exact .inr (.inl h)
        · exact .inl h
        · exact .inr (.inr h)
    · split
      · rename_i h
        subst h
        simp only [List.mem_cons]
        constructor
        · rintro (h | h)
          · exact .inl h
          · exact .inr (.inr h)
        · rintro (h | h | h)
          · exact .inl h
          · exact .inl h
          · exact .inr h
      · simp
theorem addE_rise (l : List Edge2) (x : Edge2) (h : Rise l) : Rise (addE l x) := by
  induction l with
  | nil => simp [addE, Rise]
  | cons a r ih =>
    obtain ⟨h1, h2⟩ := List.pairwise_cons.1 h
    simp only [addE]
    split
    · rename_i hx
      refine List.pairwise_cons.2 ⟨fun y hy => ?_, ih h2⟩
      rcases (addE_mem r x y).1 hy with rfl | hy
      · exact hx
      · exact h1 y hy
    · split
      · exact h
      · rename_i h3 h4
        refine List.pairwise_cons.2 ⟨fun y hy => ?_, h⟩
        have hxa : ltB x a = true := by
          rw [ltB_iff]
          have h5 : ¬ (a.1 < x.1 ∨ a.1 = x.1 ∧ a.2 < x.2) := fun hh => h3 (ltB_iff.2 hh)
          have h6 : ¬ (a.1 = x.1 ∧ a.2 = x.2) := fun hh => h4 (Prod.ext hh.1 hh.2)
          omega
        rcases List.mem_cons.1 hy with rfl | hy
        · exact hxa
        · have h7 := h1 y hy
          rw [ltB_iff] at hxa h7 ⊢
          omega
theorem addE_len (l : List Edge2) (x : Edge2) : (addE l x).length ≤ l.length + 1 := by
  induction l with
  | nil => simp [addE]
  | cons a r ih =>
    simp only [addE]
    split
    · simp; omega
    · split <;> simp
/-- Two lists that rise and have the same members are the same. -/
theorem rise_eq : ∀ (l m : List Edge2), Rise l → Rise m → (∀ e, e ∈ l ↔ e ∈ m) → l = m := by
  intro l
  induction l with
  | nil =>
    intro m _ _ h
    cases m with
    | nil => rfl
    | cons b s => exact absurd ((h b).2 (List.mem_cons_self ..)) (by simp)
  | cons a r ih =>
    intro m hl hm h
    cases m with
    | nil => exact absurd ((h a).1 (List.mem_cons_self ..)) (by simp)
    | cons b s =>
      obtain ⟨l1, l2⟩ := List.pairwise_cons.1 hl
      obtain ⟨m1, m2⟩ := List.pairwise_cons.1 hm
      have irr : ∀ e : Edge2, ltB e e = false := fun e => by simp [ltB]
      have hab : a = b := by
        rcases List.mem_cons.1 ((h a).1 (List.mem_cons_self ..)) with e | ha
        · exact e
        · rcases List.mem_cons.1 ((h b).2 (List.mem_cons_self ..)) with e | hb
          · exact e.symm
          · have k1 := m1 a ha
            have k2 := l1 b hb
            rw [ltB_iff] at k1 k2
            omega
      subst hab
      congr 1
      refine ih s l2 m2 fun e => ⟨fun he => ?_, fun he => ?_⟩
      · rcases List.mem_cons.1 ((h e).1 (List.mem_cons_of_mem _ he)) with rfl | h3
        · have := l1 e he
          rw [irr] at this; cases this
        · exact h3
      · rcases List.mem_cons.1 ((h e).2 (List.mem_cons_of_mem _ he)) with rfl | h3
        · have := m1 e he
          rw [irr] at this; cases this
        · exact h3

/-- The deals of a pair of places. -/
def edgeOf (d : List Op3) (p : Edge2) : Edge2 := ((opAt d p.1.toNat).1, (opAt d p.2.toNat).1)
/-- The edges put in one by one. -/
def putAll (d : List Op3) (ps : List Edge2) : List Edge2 := ps.foldl (fun out p => addE out (edgeOf d p)) []
theorem putAll_snoc (d : List Op3) (ps : List Edge2) (p : Edge2) : putAll d (ps ++ [p]) = addE (putAll d ps) (edgeOf d p) := by simp [putAll]
theorem putAll_rise (d : List Op3) : ∀ (ps : List Edge2) (out : List Edge2), Rise out → Rise (ps.foldl (fun out p => addE out (edgeOf d p)) out) := by
  intro ps
  induction ps with
  | nil => intro out h; exact h
  | cons p r ih => intro out h; exact ih _ (addE_rise _ _ h)
theorem putAll_mem (d : List Op3) (e : Edge2) : ∀ (ps : List Edge2) (out : List Edge2), e ∈ ps.foldl (fun out p => addE out (edgeOf d p)) out ↔ (e ∈ out ∨ ∃ p ∈ ps, edgeOf d p = e) := by
  intro ps
  induction ps with
  | nil => intro out; simp
  | cons p r ih =>
    intro out
    rw [List.foldl_cons, ih, addE_mem]
    constructor
    · rintro ((h | h) | ⟨q, h1, h2⟩)
      · exact .inr ⟨p, List.mem_cons_self .., h.symm⟩
      · exact .inl h
      · exact .inr ⟨q, List.mem_cons_of_mem _ h1, h2⟩
    · rintro (h | ⟨q, h1, h2⟩)
      · exact .inl (.inr h)
      · rcases List.mem_cons.1 h1 with rfl | h1
        · exact .inl (.inl h2.symm)
        · exact .inr ⟨q, h1, h2⟩
theorem putAll_len (d : List Op3) : ∀ (ps : List Edge2) (out : List Edge2), (ps.foldl (fun out p => addE out (edgeOf d p)) out).length ≤ out.length + ps.length := by
  intro ps
  induction ps with
  | nil => intro out; simp
  | cons p r ih =>
    intro out
    rw [List.foldl_cons]
    have h1 := ih (addE out (edgeOf d p))
    have h2 := addE_len out (edgeOf d p)
    simp; omega

/-- All edges that may be, in order. -/
def allE : List Edge2 := (List.range 36).map fun n => (((n / 6 + 1 : Nat) : Int), ((n % 6 + 1 : Nat) : Int))
theorem allE_rise : Rise allE := by unfold Rise; decide
def leadsB (d : List Op3) (e : Edge2) : Bool := (pairsL d).any fun p => edgeOf d p == e
def edgesTo (d : List Op3) (n : Nat) : List Edge2 := (allE.take n).filter (leadsB d)
theorem allE_take (n : Nat) (h : n < 36) : allE.take (n + 1) = allE.take n ++ [(((n / 6 + 1 : Nat) : Int), ((n % 6 + 1 : Nat) : Int))] := by
  have hl : n < allE.length := by simpa [allE] using h
  rw [List.take_succ_eq_append_getElem hl]
  simp [allE]
theorem edgesTo_hit {d : List Op3} {i j : Nat} (hi : i < 6) (hj : j < 6) (h : leadsB d (((i + 1 : Nat) : Int), ((j + 1 : Nat) : Int)) = true) : edgesTo d (6 * i + (j + 1)) = edgesTo d (6 * i + j) ++ [(((i + 1 : Nat) : Int), ((j + 1 : Nat) : Int))] := by
  unfold edgesTo
  rw [← Nat.add_assoc, allE_take _ (by omega), show (6 * i + j) / 6 = i by omega, show (6 * i + j) % 6 = j by omega, List.filter_append]
  simp only [List.filter_cons, h, if_true, List.filter_nil]
theorem edgesTo_miss {d : List Op3} {i j : Nat} (hi : i < 6) (hj : j < 6) (h : leadsB d (((i + 1 : Nat) : Int), ((j + 1 : Nat) : Int)) = false) : edgesTo d (6 * i + (j + 1)) = edgesTo d (6 * i + j) := by
  unfold edgesTo
  rw [← Nat.add_assoc, allE_take _ (by omega), show (6 * i + j) / 6 = i by omega, show (6 * i + j) % 6 = j by omega, List.filter_append]
  rw [List.filter_cons, h]
  simp
theorem edgesTo_len (d : List Op3) (n : Nat) : (edgesTo d n).length ≤ 36 := by
  unfold edgesTo
  have h1 := List.length_filter_le (leadsB d) (allE.take n)
  have h2 := List.length_take_le' n allE
  have h3 : allE.length = 36 := by simp [allE]
  omega
theorem mem_allE {a b : Int} (h1 : 1 ≤ a) (h2 : a ≤ 6) (h3 : 1 ≤ b) (h4 : b ≤ 6) : (a, b) ∈ allE := by
  unfold allE
  refine List.mem_map.2 ⟨6 * (a.toNat - 1) + (b.toNat - 1), List.mem_range.2 (by omega), ?_⟩
  refine Prod.ext ?_ ?_ <;> simp <;> omega
/-- The two lists of edges are the same. -/
theorem edges_same (d : List Op3) (h : ∀ o ∈ d, 1 ≤ o.1 ∧ o.1 ≤ 6) : edgesTo d 36 = putAll d (pairsL d) := by
  refine rise_eq _ _ (allE_rise.sublist ?_) (putAll_rise d _ [] List.Pairwise.nil) fun e => ?_
  · exact List.filter_sublist.trans (List.take_sublist ..)
  · unfold putAll edgesTo
    rw [putAll_mem, List.take_of_length_le (by simp [allE]), List.mem_filter]
    simp only [leadsB, List.any_eq_true, beq_iff_eq, List.not_mem_nil, false_or]
    refine ⟨fun hh => hh.2, fun hh => ⟨?_, hh⟩⟩
    obtain ⟨p, hp, rfl⟩ := hh
    obtain ⟨i, j, hij, hj, _, rfl⟩ := mem_pairs.1 hp
    have k1 := h _ (opAt_mem (l := d) (i := i) (by omega))
    have k2 := h _ (opAt_mem (l := d) (i := j) hj)
    unfold edgeOf
    exact mem_allE (by simpa using k1.1) (by simpa using k1.2) (by simpa using k2.1) (by simpa using k2.2)
end Go.Proofs.YtjcaekhkeobhpahDoor
