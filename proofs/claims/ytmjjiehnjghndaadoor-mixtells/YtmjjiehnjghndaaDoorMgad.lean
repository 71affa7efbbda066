/-
  PROVED HERE: plain facts, with no word of the program: a number put into a list that rises, once; whether a number is in a list.
  Conditions: none.
  PROVED HERE: plain facts on lists of ops, with no word of the program: which op of a history is the first that is wrong, and what becomes of that when one op is added.
  Conditions: none.
  (Of these, what the claim wants: the rest was left out.)
-/
import Derived.WalkKit
namespace Go.Proofs.YtmjjiehnjghndaaDoor

def putL : List Int → Int → List Int
  | [], n => [n]
  | x :: r, n => if x = n then x :: r else if n < x then n :: x :: r else x :: putL r n
theorem putL_len (l : List Int) (n : Int) : (putL l n).length ≤ l.length + 1 := by
  induction l with
  | nil => simp [putL]
  | cons x r ih =>
    unfold putL
    split
    · simp
    · split <;> simp <;> omega
/-- What is still to come. -/
def putR (done : Bool) (l : List Int) (n : Int) : List Int := if done then l else putL l n
/-- Is a number in a list? -/
def inB (l : List Int) (n : Int) : Bool := l.contains n
theorem inB_iff {l : List Int} {n : Int} : inB l n = true ↔ n ∈ l := by simp [inB]
theorem inB_not {l : List Int} {n : Int} : inB l n = false ↔ n ∉ l := by simp [inB]
end Go.Proofs.YtmjjiehnjghndaaDoor

namespace Go.Proofs.YtmjjiehnjghndaaDoor

/-- An op: its deal, what it does, its item. -/
abbrev Op3 := Int × Int × Int
def endsB (a : Int) : Bool := a == 3 || a == 4
def isOpB (o : Op3) : Bool := !(decide (o.1 < 1) || decide (6 < o.1) || decide (o.2.1 < 1) || decide (4 < o.2.1)) && (if endsB o.2.1 then o.2.2 == 0 else decide (1 ≤ o.2.2) && decide (o.2.2 ≤ 6))
/-- Has a deal ended among these ops? -/
def endedIn (l : List Op3) (t : Int) : Bool := l.any fun o => o.1 == t && endsB o.2.1
/-- The first that is wrong, and how, behind 'pre'. -/
def chkFrom : List Op3 → List Op3 → Nat × Int
  | _, [] => (0, 0)
  | pre, o :: r => if isOpB o = false then (pre.length, 1) else if endedIn pre o.1 = true then (pre.length, 6) else chkFrom (pre ++ [o]) r
def chk (l : List Op3) : Nat × Int := if 40 < l.length then (0, 4) else chkFrom [] l
/-- How a deal ends first among these ops, 0 if it does not. -/
def endOf : List Op3 → Int → Int
  | [], _ => 0
  | o :: r, t => if o.1 = t ∧ 3 ≤ o.2.1 then o.2.1 else endOf r t

theorem chkFrom_bad1 {a : Op3} (pre r : List Op3) (h : isOpB a = false) : chkFrom pre (a :: r) = (pre.length, 1) := by simp [chkFrom, h]
theorem chkFrom_bad2 {a : Op3} {pre : List Op3} (r : List Op3) (h : isOpB a = true) (h2 : endedIn pre a.1 = true) : chkFrom pre (a :: r) = (pre.length, 6) := by simp [chkFrom, h, h2]
theorem chkFrom_go {a : Op3} {pre : List Op3} (r : List Op3) (h : isOpB a = true) (h2 : endedIn pre a.1 = false) : chkFrom pre (a :: r) = chkFrom (pre ++ [a]) r := by simp [chkFrom, h, h2]
theorem chkFrom_ops (l : List Op3) : ∀ pre, (chkFrom pre l).2 = 0 → ∀ o ∈ l, isOpB o = true := by
  induction l with
  | nil => intro pre _ o ho; cases ho
  | cons a r ih =>
    intro pre h o ho
    simp only [chkFrom] at h
    by_cases h1 : isOpB a = false
    · simp [h1] at h
    · rw [if_neg h1] at h
      by_cases h2 : endedIn pre a.1 = true
      · simp [h2] at h
      · rw [if_neg h2] at h
        rcases List.mem_cons.1 ho with rfl | hr
        · simpa using h1
        · exact ih _ h o hr
theorem isOp_ends {o : Op3} (h : isOpB o = true) : endsB o.2.1 = decide (3 ≤ o.2.1) := by
  simp [isOpB] at h
  obtain ⟨h, -⟩ := h
  simp only [endsB]
  by_cases h3 : o.2.1 = 3
  · simp [h3]
  · by_cases h4 : o.2.1 = 4
    · simp [h4]
    · have : ¬ 3 ≤ o.2.1 := by omega
      simp [h3, h4, this]
theorem chk_short (l : List Op3) (h : l.length ≤ 40) : chk l = chkFrom [] l := by unfold chk; rw [if_neg (by omega)]
end Go.Proofs.YtmjjiehnjghndaaDoor
