/-
  PROVED HERE: plain facts on histories, with no word of the program: which lists are right; parts of a right list are right; what is done twice is what is done; the deals rise, and their ops are all the ops.
  Conditions: none.
  PROVED HERE: plain facts on lists of ops, with no word of the program: which two are at odds, the pairs of places that are, how such a list grows by one, how long it is at most.
  Conditions: none.
  PROVED HERE: plain facts on lists of edges, with no word of the program: what Check says of them, which deals they name, from which deal an edge leads to which.
  Conditions: none.
-/
import Derived.Test.YtjaeaanpbdmfgabGreatDoorDeals
import Derived.Test.YtjaeaanpbdmfgabGreatDoorPlain
namespace Go.Proofs.YtjaeaanpbdmfgabGreatDoor

/-- No op stands behind an end of its deal. -/
def Calm (l : List Op3) : Prop := l.Pairwise fun a b => ¬ (a.1 = b.1 ∧ endsB a.2.1 = true)
theorem endedIn_false {l : List Op3} {t : Int} : endedIn l t = false ↔ ∀ o ∈ l, ¬ (o.1 = t ∧ endsB o.2.1 = true) := by
  simp [endedIn]
theorem chkFrom_iff (l : List Op3) : ∀ pre, (chkFrom pre l).2 = 0 ↔ ((∀ o ∈ l, isOpB o = true) ∧ (∀ o ∈ l, endedIn pre o.1 = false) ∧ Calm l) := by
  induction l with
  | nil => intro pre; simp [chkFrom, Calm]
  | cons a r ih =>
    intro pre
    cases h1 : isOpB a with
    | false =>
      rw [chkFrom_bad1 pre r h1]
      simp [h1]
    | true =>
      cases h2 : endedIn pre a.1 with
      | true =>
        rw [chkFrom_bad2 r h1 h2]
        simp [h2]
      | false =>
        rw [chkFrom_go r h1 h2, ih]
        constructor
        · rintro ⟨k1, k2, k3⟩
          refine ⟨fun o ho => ?_, fun o ho => ?_, ?_⟩
          · rcases List.mem_cons.1 ho with rfl | ho
            · exact h1
            · exact k1 o ho
          · rcases List.mem_cons.1 ho with rfl | ho
            · exact h2
            · have := k2 o ho
              rw [endedIn_snoc] at this
              exact (Bool.or_eq_false_iff.1 this).1
          · refine List.pairwise_cons.2 ⟨fun b hb => ?_, k3⟩
            have := k2 b hb
            rw [endedIn_snoc] at this
            have h3 := (Bool.or_eq_false_iff.1 this).2
            rintro ⟨e1, e2⟩
            simp [e1, e2] at h3
        · rintro ⟨k1, k2, k3⟩
          obtain ⟨k4, k5⟩ := List.pairwise_cons.1 k3
          refine ⟨fun o ho => k1 o (List.mem_cons_of_mem _ ho), fun o ho => ?_, k5⟩
          rw [endedIn_snoc, k2 o (List.mem_cons_of_mem _ ho)]
          have := k4 o ho
          by_cases e1 : a.1 = o.1
          · cases e2 : endsB a.2.1 with
            | true => exact absurd ⟨e1, e2⟩ this
            | false => simp
          · simp [e1]
theorem chk_iff (l : List Op3) : (chk l).2 = 0 ↔ (l.length ≤ 40 ∧ (∀ o ∈ l, isOpB o = true) ∧ Calm l) := by
  constructor
  · intro h
    have hl := chk_len h
    rw [chk_short l hl, chkFrom_iff] at h
    exact ⟨hl, h.1, h.2.2⟩
  · rintro ⟨hl, h1, h2⟩
    rw [chk_short l hl, chkFrom_iff]
    exact ⟨h1, fun o _ => by simp [endedIn], h2⟩
theorem chk_sub {l m : List Op3} (h : (chk l).2 = 0) (hs : m.Sublist l) : (chk m).2 = 0 := by
  rw [chk_iff] at h ⊢
  exact ⟨Nat.le_trans hs.length_le h.1, fun o ho => h.2.1 o (hs.subset ho), h.2.2.sublist hs⟩
theorem chk_done {l : List Op3} (h : (chk l).2 = 0) : (chk (doneL l)).2 = 0 := chk_sub h (List.filter_sublist ..)
theorem chk_take {l : List Op3} (h : (chk l).2 = 0) (k : Nat) : (chk (l.take k)).2 = 0 := chk_sub h (List.take_sublist ..)

theorem commIn_done (l : List Op3) (t : Nat) : commIn (doneL l) t = commIn l t := by
  rw [Bool.eq_iff_iff]
  simp only [commIn, List.any_eq_true, doneL, List.mem_filter, Bool.and_eq_true, beq_iff_eq]
  constructor
  · rintro ⟨o, ⟨h1, _⟩, h2⟩
    exact ⟨o, h1, h2⟩
  · rintro ⟨o, h1, h2⟩
    refine ⟨o, ⟨h1, o, h1, ?_, h2.2⟩, h2⟩
    rw [h2.1]; simp
theorem done_done (l : List Op3) : doneL (doneL l) = doneL l := by
  have e : doneL (doneL l) = (doneL l).filter fun o => commIn l o.1.toNat := by
    unfold doneL
    apply List.filter_congr
    intro o _
    exact commIn_done l o.1.toNat
  rw [e]
  unfold doneL
  rw [List.filter_filter]
  simp

/-! ### Deals -/
theorem dealsTo_mem (l : List Op3) (n : Nat) : ∀ t ∈ dealsTo l n, 1 ≤ t ∧ t ≤ n ∧ hasB l t = true := by
  induction n with
  | zero => intro t ht; simp [dealsTo] at ht
  | succ n ih =>
    intro t ht
    simp only [dealsTo, List.mem_append] at ht
    rcases ht with ht | ht
    · have := ih t ht; exact ⟨this.1, by omega, this.2.2⟩
    · cases hb : hasB l ((n : Int) + 1) with
      | true => rw [hb, if_pos rfl] at ht; simp at ht; subst ht; exact ⟨by omega, by omega, hb⟩
      | false => rw [hb] at ht; simp at ht
theorem dealsTo_rise (l : List Op3) (n : Nat) : (dealsTo l n).Pairwise (· < ·) := by
  induction n with
  | zero => simp [dealsTo]
  | succ n ih =>
    simp only [dealsTo]
    refine List.pairwise_append.2 ⟨ih, ?_, fun a ha b hb => ?_⟩
    · split <;> simp
    · have h1 := (dealsTo_mem l n a ha).2.1
      split at hb
      · simp at hb; omega
      · simp at hb
def sumL (l : List Op3) (ts : List Int) : Nat := (ts.map fun t => (ofL l t).length).sum
theorem sumL_append (l : List Op3) (a b : List Int) : sumL l (a ++ b) = sumL l a + sumL l b := by simp [sumL]
theorem of_none {l : List Op3} {t : Int} (h : hasB l t = false) : (ofL l t).length = 0 := by
  simp [hasB] at h
  simp only [ofL]
  rw [List.length_eq_zero_iff, List.filter_eq_nil_iff]
  intro o ho
  have := h o.1 o.2.1 o.2.2 ho
  simpa using this
theorem of_some {l : List Op3} {t : Int} (h : hasB l t = true) : 0 < (ofL l t).length := by
  simp only [hasB, List.any_eq_true] at h
  obtain ⟨o, ho, he⟩ := h
  exact List.length_pos_of_mem (List.mem_filter.2 ⟨ho, he⟩)
theorem sum_to (l : List Op3) (h1 : ∀ o ∈ l, 1 ≤ o.1) (n : Nat) : sumL l (dealsTo l n) = (l.filter fun o => decide (o.1 ≤ (n : Int))).length := by
  induction n with
  | zero =>
    simp only [dealsTo, sumL, List.map_nil, List.sum_nil]
    symm
    rw [List.length_eq_zero_iff, List.filter_eq_nil_iff]
    intro o ho
    have := h1 o ho
    simp; omega
  | succ n ih =>
    have split : (l.filter fun o => decide (o.1 ≤ ((n + 1 : Nat) : Int))).length = (l.filter fun o => decide (o.1 ≤ (n : Int))).length + (ofL l ((n : Int) + 1)).length := by
      clear ih h1
      induction l with
      | nil => rfl
      | cons o r ih =>
        simp only [ofL] at ih ⊢
        by_cases e1 : o.1 ≤ (n : Int)
        · have e2 : o.1 ≤ ((n + 1 : Nat) : Int) := by omega
          have e3 : (o.1 == (n : Int) + 1) = false := by simp; omega
          simp only [List.filter_cons, e1, e2, e3, decide_true, if_true, List.length_cons]
          rw [ih]; simp; omega
        · by_cases e4 : o.1 = (n : Int) + 1
          · have e2 : o.1 ≤ ((n + 1 : Nat) : Int) := by omega
            have e3 : (o.1 == (n : Int) + 1) = true := by simp [e4]
            simp only [List.filter_cons, e1, e2, e3, decide_true, decide_false, if_true, List.length_cons]
            rw [ih]; simp; omega
          · have e2 : ¬ o.1 ≤ ((n + 1 : Nat) : Int) := by omega
            have e3 : (o.1 == (n : Int) + 1) = false := by simp [e4]
            simp only [List.filter_cons, e1, e2, e3, decide_false]
            simpa using ih
    rw [split]
    simp only [dealsTo]
    rw [sumL_append, ih]
    cases hb : hasB l ((n : Int) + 1) with
    | true => simp [sumL]
    | false => rw [of_none hb]; simp [sumL]
theorem sum_all {l : List Op3} (h : (chk l).2 = 0) : sumL l (dealsL l) = l.length := by
  have ho := chk_ops h
  unfold dealsL
  rw [sum_to l (fun o hm => (isOp_tx (ho o hm)).1) 6, List.filter_eq_self.2]
  intro o hm
  have := (isOp_tx (ho o hm)).2
  simp; omega
theorem sum_take_le {l : List Op3} (h : (chk l).2 = 0) (k : Nat) : sumL l ((dealsL l).take k) ≤ 40 := by
  have h1 := sum_all h
  have h2 := chk_len h
  have h3 : sumL l (dealsL l) = sumL l ((dealsL l).take k) + sumL l ((dealsL l).drop k) := by
    rw [← sumL_append, List.take_append_drop]
  omega
end Go.Proofs.YtjaeaanpbdmfgabGreatDoor

namespace Go.Proofs.YtjaeaanpbdmfgabGreatDoor

/-- From and To. -/
abbrev Edge2 := Int × Int
/-- Two ops are at odds. -/
def oddB (o p : Op3) : Bool := o.1 != p.1 && (o.2.2 == p.2.2 && (o.2.1 == 2 || p.2.1 == 2))
def opAt (l : List Op3) (i : Nat) : Op3 := l.getD i (0, 0, 0)
/-- The pairs of a place and a later one ahead of k. -/
def rowTo (l : List Op3) (i k : Nat) : List Edge2 := ((List.range k).filter fun j => decide (i < j) && oddB (opAt l i) (opAt l j)).map fun (j : Nat) => ((i : Int), (j : Int))
def pairsTo (l : List Op3) (i : Nat) : List Edge2 := (List.range i).flatMap fun k => rowTo l k l.length
def pairsL (l : List Op3) : List Edge2 := pairsTo l l.length

theorem rowTo_first (l : List Op3) (i : Nat) : rowTo l i (i + 1) = [] := by
  unfold rowTo
  rw [List.map_eq_nil_iff, List.filter_eq_nil_iff]
  intro j hj
  have := List.mem_range.1 hj
  simp; omega
theorem rowTo_hit {l : List Op3} {i k : Nat} (hik : i < k) (h : oddB (opAt l i) (opAt l k) = true) : rowTo l i (k + 1) = rowTo l i k ++ [((i : Int), (k : Int))] := by
  unfold rowTo
  rw [List.range_succ, List.filter_append, List.map_append]
  simp [hik, h]
theorem rowTo_miss {l : List Op3} {i k : Nat} (h : oddB (opAt l i) (opAt l k) = false) : rowTo l i (k + 1) = rowTo l i k := by
  unfold rowTo
  rw [List.range_succ, List.filter_append, List.map_append]
  simp [h]
theorem pairsTo_zero (l : List Op3) : pairsTo l 0 = [] := rfl
theorem pairsTo_succ (l : List Op3) (i : Nat) : pairsTo l (i + 1) = pairsTo l i ++ rowTo l i l.length := by
  unfold pairsTo
  rw [List.range_succ, List.flatMap_append]
  simp
theorem rowTo_len (l : List Op3) (i k : Nat) : (rowTo l i k).length ≤ k := by
  unfold rowTo
  rw [List.length_map]
  have := List.length_filter_le (fun j => decide (i < j) && oddB (opAt l i) (opAt l j)) (List.range k)
  rwa [List.length_range] at this
theorem pairsTo_len (l : List Op3) (i : Nat) : (pairsTo l i).length ≤ i * l.length := by
  induction i with
  | zero => simp [pairsTo_zero]
  | succ i ih =>
    rw [pairsTo_succ, List.length_append, Nat.succ_mul]
    have := rowTo_len l i l.length
    omega
/-- What the loops hold. -/
def accTo (l : List Op3) (i k : Nat) : List Edge2 := pairsTo l i ++ rowTo l i k
theorem accTo_len (l : List Op3) (i k : Nat) (hl : l.length ≤ 40) (hi : i ≤ l.length) (hk : k ≤ l.length) : (accTo l i k).length ≤ 1640 := by
  unfold accTo
  rw [List.length_append]
  have h1 := rowTo_len l i k
  have h2 := pairsTo_len l i
  have h3 : i * l.length ≤ 40 * 40 := Nat.mul_le_mul (by omega) hl
  omega
theorem accTo_first (l : List Op3) (i : Nat) : accTo l i (i + 1) = pairsTo l i := by unfold accTo; rw [rowTo_first]; simp
theorem accTo_last (l : List Op3) (i k : Nat) (h : k = l.length) : accTo l i k = pairsTo l (i + 1) := by unfold accTo; rw [h, pairsTo_succ]
theorem accTo_hit {l : List Op3} {i k : Nat} (hik : i < k) (h : oddB (opAt l i) (opAt l k) = true) : accTo l i (k + 1) = accTo l i k ++ [((i : Int), (k : Int))] := by
  unfold accTo; rw [rowTo_hit hik h, List.append_assoc]
theorem accTo_miss {l : List Op3} {i k : Nat} (h : oddB (opAt l i) (opAt l k) = false) : accTo l i (k + 1) = accTo l i k := by
  unfold accTo; rw [rowTo_miss h]
theorem pairsL_len (l : List Op3) (hl : l.length ≤ 40) : (pairsL l).length ≤ 1600 := by
  have h2 := pairsTo_len l l.length
  have h3 : l.length * l.length ≤ 40 * 40 := Nat.mul_le_mul hl hl
  unfold pairsL
  omega
theorem mem_pairs {l : List Op3} {e : Edge2} : e ∈ pairsL l ↔ ∃ i j : Nat, i < j ∧ j < l.length ∧ oddB (opAt l i) (opAt l j) = true ∧ e = ((i : Int), (j : Int)) := by
  unfold pairsL pairsTo
  rw [List.mem_flatMap]
  constructor
  · rintro ⟨i, hi, he⟩
    unfold rowTo at he
    obtain ⟨j, hj, rfl⟩ := List.mem_map.1 he
    obtain ⟨hj1, hj2⟩ := List.mem_filter.1 hj
    simp at hj1 hj2
    exact ⟨i, j, hj2.1, hj1, hj2.2, rfl⟩
  · rintro ⟨i, j, hij, hj, ho, rfl⟩
    refine ⟨i, List.mem_range.2 (by omega), ?_⟩
    unfold rowTo
    exact List.mem_map.2 ⟨j, List.mem_filter.2 ⟨List.mem_range.2 hj, by simp [hij, ho]⟩, rfl⟩
/-- Who only reads is at odds with nobody. -/
theorem odd_reads {o p : Op3} (h1 : o.2.1 ≠ 2) (h2 : p.2.1 ≠ 2) : oddB o p = false := by simp [oddB, h1, h2]
theorem opAt_mem {l : List Op3} {i : Nat} (h : i < l.length) : opAt l i ∈ l := by
  unfold opAt
  simp [List.getD, List.getElem?_eq_getElem h]
theorem pairs_reads {l : List Op3} (h : ∀ o ∈ l, o.2.1 ≠ 2) : pairsL l = [] := by
  refine List.eq_nil_iff_forall_not_mem.2 fun e he => ?_
  obtain ⟨i, j, hij, hj, ho, _⟩ := mem_pairs.1 he
  rw [odd_reads (h _ (opAt_mem (by omega))) (h _ (opAt_mem hj))] at ho
  cases ho
theorem fact_pairs : pairsL [(1, 1, 1), (2, 2, 1)] = [(0, 1)] := by decide
theorem fact_right : chk [(1, 1, 1), (2, 2, 1)] = (0, 0) := by decide
end Go.Proofs.YtjaeaanpbdmfgabGreatDoor

namespace Go.Proofs.YtjaeaanpbdmfgabGreatDoor

def dealB (t : Int) : Bool := decide (1 ≤ t) && decide (t ≤ 6)
def wrongB (e : Edge2) : Bool := !dealB e.1 || !dealB e.2
/-- What is wrong with edges: 4, 1, or 0. -/
def gchk (l : List Edge2) : Int := if 60 < l.length then 4 else if l.any wrongB = true then 1 else 0
theorem gchk_len {l : List Edge2} (h : gchk l = 0) : l.length ≤ 60 := by
  unfold gchk at h
  split at h
  · cases h
  · omega
theorem dealB_iff {t : Int} : dealB t = true ↔ 1 ≤ t ∧ t ≤ 6 := by simp [dealB]
theorem gchk_deal {l : List Edge2} (h : gchk l = 0) : ∀ e ∈ l, (1 ≤ e.1 ∧ e.1 ≤ 6) ∧ (1 ≤ e.2 ∧ e.2 ≤ 6) := by
  intro e he
  unfold gchk at h
  split at h
  · cases h
  · split at h
    · cases h
    · rename_i _ h2
      have h3 : l.any wrongB = false := by simpa using h2
      have h4 := List.any_eq_false.1 h3 e he
      simp only [wrongB, Bool.or_eq_true, Bool.not_eq_true', not_or] at h4
      exact ⟨dealB_iff.1 (by simpa using h4.1), dealB_iff.1 (by simpa using h4.2)⟩
/-- Of which deals it is so; from which to which. -/
abbrev Set7 := Nat → Bool
abbrev Step7 := Nat → Nat → Bool
def namedS (l : List Edge2) : Set7 := fun k => l.any fun e => e.1 == (k : Int) || e.2 == (k : Int)
def stepsS (l : List Edge2) : Step7 := fun i k => l.any fun e => e.1 == (i : Int) && e.2 == (k : Int)
theorem namedS_snoc (l : List Edge2) (e : Edge2) (k : Nat) : namedS (l ++ [e]) k = (namedS l k || (e.1 == (k : Int) || e.2 == (k : Int))) := by simp [namedS]
theorem stepsS_snoc (l : List Edge2) (e : Edge2) (i k : Nat) : stepsS (l ++ [e]) i k = (stepsS l i k || (e.1 == (i : Int) && e.2 == (k : Int))) := by simp [stepsS]
end Go.Proofs.YtjaeaanpbdmfgabGreatDoor
