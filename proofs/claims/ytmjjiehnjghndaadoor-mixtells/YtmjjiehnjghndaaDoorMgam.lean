/-
  PROVED HERE: plain facts, with no word of the program: of what is done there are as many pieces as deals just if each piece ends with a commit.
  Conditions: none.
  (Of these, what the claim wants: the rest was left out.)
  PROVED HERE: plain facts on lists, with no word of the program: edges put in one by one, sorted and each once, are the same list as the possible edges, in order, of which only those are kept that are there.
  Conditions: none.
-/
import Derived.Test.YtmjjiehnjghndaaDoorMgal
import Derived.Test.YtmjjiehnjghndaaDoorMgae
import Derived.Test.YtmjjiehnjghndaaDoorMgak
namespace Go.Proofs.YtmjjiehnjghndaaDoor

/-- What is done: right, and each of its deals commits. -/
structure Doing (d : List Op3) : Prop where
  calm : Calm d
  deal : ∀ o ∈ d, 1 ≤ o.1 ∧ o.1 ≤ 6
  ends : ∀ o ∈ d, ∃ p ∈ d, p.1 = o.1 ∧ p.2.1 = 3
theorem doing_done {l : List Op3} (h : (chk l).2 = 0) : Doing (doneL l) where
  calm := ((chk_iff _).1 (chk_done h)).2.2
  deal := fun o ho => isOp_tx (chk_ops (chk_done h) o ho)
  ends := fun o ho => by
    have ht := isOp_tx (chk_ops (chk_done h) o ho)
    have h1 : commIn (doneL l) o.1.toNat = true := by
      rw [commIn_done]
      exact (List.mem_filter.1 ho).2
    unfold commIn at h1
    obtain ⟨p, hp, h2⟩ := List.any_eq_true.1 h1
    simp only [Bool.and_eq_true, beq_iff_eq] at h2
    exact ⟨p, hp, by omega, h2.2⟩
end Go.Proofs.YtmjjiehnjghndaaDoor

namespace Go.Proofs.YtmjjiehnjghndaaDoor

def ltB (a x : Edge2) : Bool := decide (a.1 < x.1) || (a.1 == x.1 && decide (a.2 < x.2))
theorem ltB_iff {a x : Edge2} : ltB a x = true ↔ (a.1 < x.1 ∨ a.1 = x.1 ∧ a.2 < x.2) := by simp [ltB]
def Rise (l : List Edge2) : Prop := l.Pairwise fun a b => ltB a b = true
/-- Put an edge into some that rise, once. -/
def addE : List Edge2 → Edge2 → List Edge2
  | [], x => [x]
  | a :: r, x => if ltB a x = true then a :: addE r x else if a = x then a :: r else x :: a :: r
/-- How many stand ahead of it. -/
def leadE : List Edge2 → Edge2 → Nat
  | [], _ => 0
  | a :: r, x => if ltB a x = true then leadE r x + 1 else 0
theorem leadE_le (l : List Edge2) (x : Edge2) : leadE l x ≤ l.length := by
  induction l with
  | nil => simp [leadE]
  | cons a r ih => simp only [leadE]; split <;> simp; omega
theorem leadE_before (l : List Edge2) (x : Edge2) : ∀ k, k < leadE l x → ltB (l.getD k (0, 0)) x = true := by
  induction l with
  | nil => intro k hk; simp [leadE] at hk
  | cons a r ih =>
    intro k hk
    simp only [leadE] at hk
    split at hk
    · rename_i h
      cases k with
      | zero => simpa using h
      | succ k => simpa using ih k (by omega)
    · omega
theorem leadE_at (l : List Edge2) (x : Edge2) : leadE l x < l.length → ltB (l.getD (leadE l x) (0, 0)) x = false := by
  induction l with
  | nil => intro h; simp at h
  | cons a r ih =>
    intro h
    simp only [leadE] at h ⊢
    split
    · rename_i h1
      rw [if_pos h1] at h
      simpa using ih (by simpa using h)
    · rename_i h1
      simpa using h1
theorem leadE_eq (l : List Edge2) (x : Edge2) (k : Nat) (hk : k ≤ l.length) (h1 : ∀ j, j < k → ltB (l.getD j (0, 0)) x = true) (h2 : k < l.length → ltB (l.getD k (0, 0)) x = false) : leadE l x = k := by
  rcases Nat.lt_trichotomy (leadE l x) k with h | h | h
  · have h3 := leadE_at l x (by omega)
    rw [h1 _ h] at h3; cases h3
  · exact h
  · have h3 := leadE_before l x k h
    rw [h2 (by have := leadE_le l x; omega)] at h3; cases h3
theorem addE_there (l : List Edge2) (x : Edge2) : leadE l x < l.length → l.getD (leadE l x) (0, 0) = x → addE l x = l := by
  induction l with
  | nil => intro h; simp at h
  | cons a r ih =>
    intro h h2
    simp only [leadE] at h h2
    simp only [addE]
    split
    · rename_i h1
      rw [if_pos h1] at h h2
      rw [ih (by simpa using h) (by simpa using h2)]
    · rename_i h1
      rw [if_neg h1] at h2
      rw [if_pos (by simpa using h2)]
theorem addE_new (l : List Edge2) (x : Edge2) : (leadE l x < l.length → l.getD (leadE l x) (0, 0) ≠ x) → addE l x = l.take (leadE l x) ++ [x] ++ l.drop (leadE l x) := by
  induction l with
  | nil => intro _; simp [addE, leadE]
  | cons a r ih =>
    intro h
    simp only [leadE] at h ⊢
    simp only [addE]
    split
    · rename_i h1
      rw [if_pos h1] at h
      rw [ih fun h3 h4 => h (by simpa using h3) (by simpa using h4)]
      simp
    · rename_i h1
      rw [if_neg h1] at h
      rw [if_neg fun h4 => h (by simp) (by simpa using h4)]
      simp
theorem addE_mem (l : List Edge2) (x y : Edge2) : y ∈ addE l x ↔ y = x ∨ y ∈ l := by
  induction l with
  | nil => simp [addE]
  | cons a r ih =>
    simp only [addE]
    split
    · simp only [List.mem_cons, ih]
      constructor
      · rintro (h | h | h)
        · exact .inr (.inl h)
        · exact .inl h
        · exact .inr (.inr h)
      · rintro (h | h | h)
        · exact .inr (.inl h)
        · exact .inl h
        · exact .inr (.inr h)
    · split
      · rename_i h
        subst h
        simp only [List.mem_cons]
        constructor
        · rintro (h | h)
          · exact .inl h
          · exact .inr (.inr h)
        · rintro (h | h | h)
          · exact .inl h
          · exact .inl h
          · exact .inr h
      · simp
theorem addE_rise (l : List Edge2) (x : Edge2) (h : Rise l) : Rise (addE l x) := by
  induction l with
  | nil => simp [addE, Rise]
  | cons a r ih =>
    obtain ⟨h1, h2⟩ := List.pairwise_cons.1 h
    simp only [addE]
    split
    · rename_i hx
      refine List.pairwise_cons.2 ⟨fun y hy => ?_, ih h2⟩
      rcases (addE_mem r x y).1 hy with rfl | hy
      · exact hx
      · exact h1 y hy
    · split
      · exact h
      · rename_i h3 h4
        refine List.pairwise_cons.2 ⟨fun y hy => ?_, h⟩
        have hxa : ltB x a = true := by
          rw [ltB_iff]
          have h5 : ¬ (a.1 < x.1 ∨ a.1 = x.1 ∧ a.2 < x.2) := fun hh => h3 (ltB_iff.2 hh)
          have h6 : ¬ (a.1 = x.1 ∧ a.2 = x.2) := fun hh => h4 (Prod.ext hh.1 hh.2)
          omega
        rcases List.mem_cons.1 hy with rfl | hy
        · exact hxa
        · have h7 := h1 y hy
          rw [ltB_iff] at hxa h7 ⊢
          omega
theorem addE_len (l : List Edge2) (x : Edge2) : (addE l x).length ≤ l.length + 1 := by
  induction l with
  | nil => simp [addE]
  | cons a r ih =>
    simp only [addE]
    split
    · simp; omega
    · split <;> simp
/-- Two lists that rise and have the same members are the same. -/
theorem rise_eq : ∀ (l m : List Edge2), Rise l → Rise m → (∀ e, e ∈ l ↔ e ∈ m) → l = m := by
  intro l
  induction l with
  | nil =>
    intro m _ _ h
    cases m with
    | nil => rfl
    | cons b s => exact absurd ((h b).2 (List.mem_cons_self ..)) (by simp)
  | cons a r ih =>
    intro m hl hm h
    cases m with
    | nil => exact absurd ((h a).1 (List.mem_cons_self ..)) (by simp)
    | cons b s =>
      obtain ⟨l1, l2⟩ := List.pairwise_cons.1 hl
      obtain ⟨m1, m2⟩ := List.pairwise_cons.1 hm
      have irr : ∀ e : Edge2, ltB e e = false := fun e => by simp [ltB]
      have hab : a = b := by
        rcases List.mem_cons.1 ((h a).1 (List.mem_cons_self ..)) with e | ha
        · exact e
        · rcases List.mem_cons.1 ((h b).2 (List.mem_cons_self ..)) with e | hb
          · exact e.symm
          · have k1 := m1 a ha
            have k2 := l1 b hb
            rw [ltB_iff] at k1 k2
            omega
      subst hab
      congr 1
      refine ih s l2 m2 fun e => ⟨fun he => ?_, fun he => ?_⟩
      · rcases List.mem_cons.1 ((h e).1 (List.mem_cons_of_mem _ he)) with rfl | h3
        · have := l1 e he
          rw [irr] at this; cases this
        · exact h3
      · rcases List.mem_cons.1 ((h e).2 (List.mem_cons_of_mem _ he)) with rfl | h3
        · have := m1 e he
          rw [irr] at this; cases this
        · exact h3

/-- The deals of a pair of places. -/
def edgeOf (d : List Op3) (p : Edge2) : Edge2 := ((opAt d p.1.toNat).1, (opAt d p.2.toNat).1)
/-- The edges put in one by one. -/
def putAll (d : List Op3) (ps : List Edge2) : List Edge2 := ps.foldl (fun out p => addE out (edgeOf d p)) []
theorem putAll_snoc (d : List Op3) (ps : List Edge2) (p : Edge2) : putAll d (ps ++ [p]) = addE (putAll d ps) (edgeOf d p) := by simp [putAll]
theorem putAll_rise (d : List Op3) : ∀ (ps : List Edge2) (out : List Edge2), Rise out → Rise (ps.foldl (fun out p => addE out (edgeOf d p)) out) := by
  intro ps
  induction ps with
  | nil => intro out h; exact h
  | cons p r ih => intro out h; exact ih _ (addE_rise _ _ h)
theorem putAll_mem (d : List Op3) (e : Edge2) : ∀ (ps : List Edge2) (out : List Edge2), e ∈ ps.foldl (fun out p => addE out (edgeOf d p)) out ↔ (e ∈ out ∨ ∃ p ∈ ps, edgeOf d p = e) := by
  intro ps
  induction ps with
  | nil => intro out; simp
  | cons p r ih =>
    intro out
    rw [List.foldl_cons, ih, addE_mem]
    constructor
    · rintro ((h | h) | ⟨q, h1, h2⟩)
      · exact .inr ⟨p, List.mem_cons_self .., h.symm⟩
      · exact .inl h
      · exact .inr ⟨q, List.mem_cons_of_mem _ h1, h2⟩
    · rintro (h | ⟨q, h1, h2⟩)
      · exact .inl (.inr h)
      · rcases List.mem_cons.1 h1 with rfl | h1
        · exact .inl (.inl h2.symm)
        · exact .inr ⟨q, h1, h2⟩
theorem putAll_len (d : List Op3) : ∀ (ps : List Edge2) (out : List Edge2), (ps.foldl (fun out p => addE out (edgeOf d p)) out).length ≤ out.length + ps.length := by
  intro ps
  induction ps with
  | nil => intro out; simp
  | cons p r ih =>
    intro out
    rw [List.foldl_cons]
    have h1 := ih (addE out (edgeOf d p))
    have h2 := addE_len out (edgeOf d p)
    simp; omega

/-- All edges that may be, in order. -/
def allE : List Edge2 := (List.range 36).map fun n => (((n / 6 + 1 : Nat) : Int), ((n % 6 + 1 : Nat) : Int))
theorem allE_rise : Rise allE := by unfold Rise; decide
def leadsB (d : List Op3) (e : Edge2) : Bool := (pairsL d).any fun p => edgeOf d p == e
def edgesTo (d : List Op3) (n : Nat) : List Edge2 := (allE.take n).filter (leadsB d)
theorem allE_take (n : Nat) (h : n < 36) : allE.take (n + 1) = allE.take n ++ [(((n / 6 + 1 : Nat) : Int), ((n % 6 + 1 : Nat) : Int))] := by
  have hl : n < allE.length := by simpa [allE] using h
  rw [List.take_succ_eq_append_getElem hl]
  simp [allE]
theorem edgesTo_hit {d : List Op3} {i j : Nat} (hi : i < 6) (hj : j < 6) (h : leadsB d (((i + 1 : Nat) : Int), ((j + 1 : Nat) : Int)) = true) : edgesTo d (6 * i + (j + 1)) = edgesTo d (6 * i + j) ++ [(((i + 1 : Nat) : Int), ((j + 1 : Nat) : Int))] := by
  unfold edgesTo
  rw [← Nat.add_assoc, allE_take _ (by omega), show (6 * i + j) / 6 = i by omega, show (6 * i + j) % 6 = j by omega, List.filter_append]
  simp only [List.filter_cons, h, if_true, List.filter_nil]
theorem edgesTo_miss {d : List Op3} {i j : Nat} (hi : i < 6) (hj : j < 6) (h : leadsB d (((i + 1 : Nat) : Int), ((j + 1 : Nat) : Int)) = false) : edgesTo d (6 * i + (j + 1)) = edgesTo d (6 * i + j) := by
  unfold edgesTo
  rw [← Nat.add_assoc, allE_take _ (by omega), show (6 * i + j) / 6 = i by omega, show (6 * i + j) % 6 = j by omega, List.filter_append]
  rw [List.filter_cons, h]
  simp
theorem edgesTo_len (d : List Op3) (n : Nat) : (edgesTo d n).length ≤ 36 := by
  unfold edgesTo
  have h1 := List.length_filter_le (leadsB d) (allE.take n)
  have h2 := List.length_take_le' n allE
  have h3 : allE.length = 36 := by simp [allE]
  omega
theorem mem_allE {a b : Int} (h1 : 1 ≤ a) (h2 : a ≤ 6) (h3 : 1 ≤ b) (h4 : b ≤ 6) : (a, b) ∈ allE := by
  unfold allE
  refine List.mem_map.2 ⟨6 * (a.toNat - 1) + (b.toNat - 1), List.mem_range.2 (by omega), ?_⟩
  refine Prod.ext ?_ ?_ <;> simp <;> omega
/-- The two lists of edges are the same. -/
theorem edges_same (d : List Op3) (h : ∀ o ∈ d, 1 ≤ o.1 ∧ o.1 ≤ 6) : edgesTo d 36 = putAll d (pairsL d) := by
  refine rise_eq _ _ (allE_rise.sublist ?_) (putAll_rise d _ [] List.Pairwise.nil) fun e => ?_
  · exact List.filter_sublist.trans (List.take_sublist ..)
  · unfold putAll edgesTo
    rw [putAll_mem, List.take_of_length_le (by simp [allE]), List.mem_filter]
    simp only [leadsB, List.any_eq_true, beq_iff_eq, List.not_mem_nil, false_or]
    refine ⟨fun hh => hh.2, fun hh => ⟨?_, hh⟩⟩
    obtain ⟨p, hp, rfl⟩ := hh
    obtain ⟨i, j, hij, hj, _, rfl⟩ := mem_pairs.1 hp
    have k1 := h _ (opAt_mem (l := d) (i := i) (by omega))
    have k2 := h _ (opAt_mem (l := d) (i := j) hj)
    unfold edgeOf
    exact mem_allE (by simpa using k1.1) (by simpa using k1.2) (by simpa using k2.1) (by simpa using k2.2)
end Go.Proofs.YtmjjiehnjghndaaDoor
