/-
  PROVED HERE: plain facts, with no word of the program: a number put into a list that rises, once; whether a number is in a list.
  Conditions: none.
  (Of these, what the claim wants: the rest was left out.)
  PROVED HERE: plain facts on lists of ops, with no word of the program: which op of a history is the first that is wrong, and what becomes of that when one op is added.
  Conditions: none.
  (Of these, what the claim wants: the rest was left out.)
  PROVED HERE: plain facts on lists of ops, with no word of the program: which two are at odds, the pairs of places that are, how such a list grows by one, how long it is at most.
  Conditions: none.
  (Of these, what the claim wants: the rest was left out.)
  PROVED HERE: plain facts on lists of edges, with no word of the program: what Check says of them, which deals they name, from which deal an edge leads to which.
  Conditions: none.
-/
import Derived.WalkKit
namespace Go.Proofs.YtmjjiehnjghndaaGreat

def putL : List Int → Int → List Int
  | [], n => [n]
  | x :: r, n => if x = n then x :: r else if n < x then n :: x :: r else x :: putL r n
/-- Is a number in a list? -/
def inB (l : List Int) (n : Int) : Bool := l.contains n
theorem inB_iff {l : List Int} {n : Int} : inB l n = true ↔ n ∈ l := by simp [inB]
theorem inB_not {l : List Int} {n : Int} : inB l n = false ↔ n ∉ l := by simp [inB]
end Go.Proofs.YtmjjiehnjghndaaGreat

namespace Go.Proofs.YtmjjiehnjghndaaGreat

/-- An op: its deal, what it does, its item. -/
abbrev Op3 := Int × Int × Int
def endsB (a : Int) : Bool := a == 3 || a == 4
def isOpB (o : Op3) : Bool := !(decide (o.1 < 1) || decide (6 < o.1) || decide (o.2.1 < 1) || decide (4 < o.2.1)) && (if endsB o.2.1 then o.2.2 == 0 else decide (1 ≤ o.2.2) && decide (o.2.2 ≤ 6))
/-- Has a deal ended among these ops? -/
def endedIn (l : List Op3) (t : Int) : Bool := l.any fun o => o.1 == t && endsB o.2.1
/-- The first that is wrong, and how, behind 'pre'. -/
def chkFrom : List Op3 → List Op3 → Nat × Int
  | _, [] => (0, 0)
  | pre, o :: r => if isOpB o = false then (pre.length, 1) else if endedIn pre o.1 = true then (pre.length, 6) else chkFrom (pre ++ [o]) r
def chk (l : List Op3) : Nat × Int := if 40 < l.length then (0, 4) else chkFrom [] l
/-- How a deal ends first among these ops, 0 if it does not. -/
def endOf : List Op3 → Int → Int
  | [], _ => 0
  | o :: r, t => if o.1 = t ∧ 3 ≤ o.2.1 then o.2.1 else endOf r t

theorem chkFrom_bad1 {a : Op3} (pre r : List Op3) (h : isOpB a = false) : chkFrom pre (a :: r) = (pre.length, 1) := by simp [chkFrom, h]
theorem chkFrom_bad2 {a : Op3} {pre : List Op3} (r : List Op3) (h : isOpB a = true) (h2 : endedIn pre a.1 = true) : chkFrom pre (a :: r) = (pre.length, 6) := by simp [chkFrom, h, h2]
theorem chkFrom_go {a : Op3} {pre : List Op3} (r : List Op3) (h : isOpB a = true) (h2 : endedIn pre a.1 = false) : chkFrom pre (a :: r) = chkFrom (pre ++ [a]) r := by simp [chkFrom, h, h2]
theorem chkFrom_ops (l : List Op3) : ∀ pre, (chkFrom pre l).2 = 0 → ∀ o ∈ l, isOpB o = true := by
  induction l with
  | nil => intro pre _ o ho; cases ho
  | cons a r ih =>
    intro pre h o ho
    simp only [chkFrom] at h
    by_cases h1 : isOpB a = false
    · simp [h1] at h
    · rw [if_neg h1] at h
      by_cases h2 : endedIn pre a.1 = true
      · simp [h2] at h
      · rw [if_neg h2] at h
        rcases List.mem_cons.1 ho with rfl | hr
        · simpa using h1
        · exact ih _ h o hr
theorem isOp_ends {o : Op3} (h : isOpB o = true) : endsB o.2.1 = decide (3 ≤ o.2.1) := by
  simp [isOpB] at h
  obtain ⟨h, -⟩ := h
  simp only [endsB]
  by_cases h3 : o.2.1 = 3
  · simp [h3]
  · by_cases h4 : o.2.1 = 4
    · simp [h4]
    · have : ¬ 3 ≤ o.2.1 := by omega
      simp [h3, h4, this]
theorem endOf_ended (l : List Op3) (t : Int) (h : ∀ o ∈ l, isOpB o = true) : (endOf l t = 0) ↔ endedIn l t = false := by
  induction l with
  | nil => simp [endOf, endedIn]
  | cons a r ih =>
    have ha := isOp_ends (h a (List.mem_cons_self ..))
    have ih' := ih fun o ho => h o (List.mem_cons_of_mem _ ho)
    simp only [endOf, endedIn, List.any_cons, ha] at ih' ⊢
    by_cases hc : a.1 = t ∧ 3 ≤ a.2.1
    · rw [if_pos hc]; simp [hc.1, hc.2]; omega
    · rw [if_neg hc, ih']
      have : (a.1 == t && decide (3 ≤ a.2.1)) = false := by
        by_cases h1 : a.1 = t
        · have : ¬ 3 ≤ a.2.1 := fun h3 => hc ⟨h1, h3⟩
          simp [this]
        · simp [h1]
      simp [this]

theorem chk_short (l : List Op3) (h : l.length ≤ 40) : chk l = chkFrom [] l := by unfold chk; rw [if_neg (by omega)]
end Go.Proofs.YtmjjiehnjghndaaGreat

namespace Go.Proofs.YtmjjiehnjghndaaGreat

/-- From and To. -/
abbrev Edge2 := Int × Int
/-- Two ops are at odds. -/
def oddB (o p : Op3) : Bool := o.1 != p.1 && (o.2.2 == p.2.2 && (o.2.1 == 2 || p.2.1 == 2))
def opAt (l : List Op3) (i : Nat) : Op3 := l.getD i (0, 0, 0)
/-- The pairs of a place and a later one ahead of k. -/
def rowTo (l : List Op3) (i k : Nat) : List Edge2 := ((List.range k).filter fun j => decide (i < j) && oddB (opAt l i) (opAt l j)).map fun (j : Nat) => ((i : Int), (j : Int))
def pairsTo (l : List Op3) (i : Nat) : List Edge2 := (List.range i).flatMap fun k => rowTo l k l.length
def pairsL (l : List Op3) : List Edge2 := pairsTo l l.length

theorem rowTo_first (l : List Op3) (i : Nat) : rowTo l i (i + 1) = [] := by
  unfold rowTo
  rw [List.map_eq_nil_iff, List.filter_eq_nil_iff]
  intro j hj
  have := List.mem_range.1 hj
  simp; omega
theorem rowTo_hit {l : List Op3} {i k : Nat} (hik : i < k) (h : oddB (opAt l i) (opAt l k) = true) : rowTo l i (k + 1) = rowTo l i k ++ [((i : Int), (k : Int))] := by
  unfold rowTo
  rw [List.range_succ, List.filter_append, List.map_append]
  simp [hik, h]
theorem rowTo_miss {l : List Op3} {i k : Nat} (h : oddB (opAt l i) (opAt l k) = false) : rowTo l i (k + 1) = rowTo l i k := by
  unfold rowTo
  rw [List.range_succ, List.filter_append, List.map_append]
  simp [h]
theorem pairsTo_zero (l : List Op3) : pairsTo l 0 = [] := rfl
theorem pairsTo_succ (l : List Op3) (i : Nat) : pairsTo l (i + 1) = pairsTo l i ++ rowTo l i l.length := by
  unfold pairsTo
  rw [List.range_succ, List.flatMap_append]
  simp
theorem rowTo_len (l : List Op3) (i k : Nat) : (rowTo l i k).length ≤ k := by
  unfold rowTo
  rw [List.length_map]
  have := List.length_filter_le (fun j => decide (i < j) && oddB (opAt l i) (opAt l j)) (List.range k)
  rwa [List.length_range] at this
theorem pairsTo_len (l : List Op3) (i : Nat) : (pairsTo l i).length ≤ i * l.length := by
  induction i with
  | zero => simp [pairsTo_zero]
  | succ i ih =>
    rw [pairsTo_succ, List.length_append, Nat.succ_mul]
    have := rowTo_len l i l.length
    omega
/-- What the loops hold. -/
def accTo (l : List Op3) (i k : Nat) : List Edge2 := pairsTo l i ++ rowTo l i k
theorem accTo_len (l : List Op3) (i k : Nat) (hl : l.length ≤ 40) (hi : i ≤ l.length) (hk : k ≤ l.length) : (accTo l i k).length ≤ 1640 := by
  unfold accTo
  rw [List.length_append]
  have h1 := rowTo_len l i k
  have h2 := pairsTo_len l i
  have h3 : i * l.length ≤ 40 * 40 := Nat.mul_le_mul (by omega) hl
  omega
theorem accTo_first (l : List Op3) (i : Nat) : accTo l i (i + 1) = pairsTo l i := by unfold accTo; rw [rowTo_first]; simp
theorem accTo_last (l : List Op3) (i k : Nat) (h : k = l.length) : accTo l i k = pairsTo l (i + 1) := by unfold accTo; rw [h, pairsTo_succ]
theorem accTo_hit {l : List Op3} {i k : Nat} (hik : i < k) (h : oddB (opAt l i) (opAt l k) = true) : accTo l i (k + 1) = accTo l i k ++ [((i : Int), (k : Int))] := by
  unfold accTo; rw [rowTo_hit hik h, List.append_assoc]
theorem accTo_miss {l : List Op3} {i k : Nat} (h : oddB (opAt l i) (opAt l k) = false) : accTo l i (k + 1) = accTo l i k := by
  unfold accTo; rw [rowTo_miss h]
theorem pairsL_len (l : List Op3) (hl : l.length ≤ 40) : (pairsL l).length ≤ 1600 := by
  have h2 := pairsTo_len l l.length
  have h3 : l.length * l.length ≤ 40 * 40 := Nat.mul_le_mul hl hl
  unfold pairsL
  omega
theorem mem_pairs {l : List Op3} {e : Edge2} : e ∈ pairsL l ↔ ∃ i j : Nat, i < j ∧ j < l.length ∧ oddB (opAt l i) (opAt l j) = true ∧ e = ((i : Int), (j : Int)) := by
  unfold pairsL pairsTo
  rw [List.mem_flatMap]
  constructor
  · rintro ⟨i, hi, he⟩
    unfold rowTo at he
    obtain ⟨j, hj, rfl⟩ := List.mem_map.1 he
    obtain ⟨hj1, hj2⟩ := List.mem_filter.1 hj
    simp at hj1 hj2
    exact ⟨i, j, hj2.1, hj1, hj2.2, rfl⟩
  · rintro ⟨i, j, hij, hj, ho, rfl⟩
    refine ⟨i, List.mem_range.2 (by omega), ?_⟩
    unfold rowTo
    exact List.mem_map.2 ⟨j, List.mem_filter.2 ⟨List.mem_range.2 hj, by simp [hij, ho]⟩, rfl⟩
theorem opAt_mem {l : List Op3} {i : Nat} (h : i < l.length) : opAt l i ∈ l := by
  unfold opAt
  simp [List.getD, List.getElem?_eq_getElem h]
end Go.Proofs.YtmjjiehnjghndaaGreat

namespace Go.Proofs.YtmjjiehnjghndaaGreat

def dealB (t : Int) : Bool := decide (1 ≤ t) && decide (t ≤ 6)
def wrongB (e : Edge2) : Bool := !dealB e.1 || !dealB e.2
/-- What is wrong with edges: 4, 1, or 0. -/
def gchk (l : List Edge2) : Int := if 60 < l.length then 4 else if l.any wrongB = true then 1 else 0
theorem gchk_len {l : List Edge2} (h : gchk l = 0) : l.length ≤ 60 := by
  unfold gchk at h
  split at h
  · cases h
  · omega
theorem dealB_iff {t : Int} : dealB t = true ↔ 1 ≤ t ∧ t ≤ 6 := by simp [dealB]
theorem gchk_deal {l : List Edge2} (h : gchk l = 0) : ∀ e ∈ l, (1 ≤ e.1 ∧ e.1 ≤ 6) ∧ (1 ≤ e.2 ∧ e.2 ≤ 6) := by
  intro e he
  unfold gchk at h
  split at h
  · cases h
  · split at h
    · cases h
    · rename_i _ h2
      have h3 : l.any wrongB = false := by simpa using h2
      have h4 := List.any_eq_false.1 h3 e he
      simp only [wrongB, Bool.or_eq_true, Bool.not_eq_true', not_or] at h4
      exact ⟨dealB_iff.1 (by simpa using h4.1), dealB_iff.1 (by simpa using h4.2)⟩
/-- Of which deals it is so; from which to which. -/
abbrev Set7 := Nat → Bool
abbrev Step7 := Nat → Nat → Bool
def namedS (l : List Edge2) : Set7 := fun k => l.any fun e => e.1 == (k : Int) || e.2 == (k : Int)
def stepsS (l : List Edge2) : Step7 := fun i k => l.any fun e => e.1 == (i : Int) && e.2 == (k : Int)
theorem namedS_snoc (l : List Edge2) (e : Edge2) (k : Nat) : namedS (l ++ [e]) k = (namedS l k || (e.1 == (k : Int) || e.2 == (k : Int))) := by simp [namedS]
theorem stepsS_snoc (l : List Edge2) (e : Edge2) (i k : Nat) : stepsS (l ++ [e]) i k = (stepsS l i k || (e.1 == (i : Int) && e.2 == (k : Int))) := by simp [stepsS]
end Go.Proofs.YtmjjiehnjghndaaGreat
