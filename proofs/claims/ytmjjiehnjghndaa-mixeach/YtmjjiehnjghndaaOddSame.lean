/-
  PROVED HERE: plain facts on lists, with no word of the program: the place of a deal's n-th op; the names of ops (an op, and which of its deal's ops it is); two lists have the same names just if they have the same ops of each deal, in the same order; and then an op's place is where its name stands.
  Conditions: none.
  (Of these, what the claim wants: the rest was left out.)
-/
import Derived.Test.YtmjjiehnjghndaaMgac
import Derived.Test.YtmjjiehnjghndaaBack
namespace Go.Proofs.Ytmjjiehnjghndaa

/-- The place of a deal's n-th op. -/
def placeOf : List Op3 → Int → Nat → Option Nat
  | [], _, _ => none
  | o :: r, t, n => if o.1 = t then (if n = 0 then some 0 else (placeOf r t (n - 1)).map (· + 1)) else (placeOf r t n).map (· + 1)
/-- Which of its deal's ops an op is. -/
def nthAt (l : List Op3) (i : Nat) : Nat := (ofL (l.take i) (opAt l i).1).length
theorem ofL_cons (o : Op3) (r : List Op3) (t : Int) : ofL (o :: r) t = if o.1 = t then o :: ofL r t else ofL r t := by
  unfold ofL
  rw [List.filter_cons]
  by_cases h : o.1 = t <;> simp [h]
theorem ofL_append (l m : List Op3) (t : Int) : ofL (l ++ m) t = ofL l t ++ ofL m t := by simp [ofL]
def dealsEq (h g : List Op3) : Prop := ∀ t : Int, 1 ≤ t → t ≤ 6 → ofL h t = ofL g t
theorem sum_six (l : List Op3) (hl : ∀ o ∈ l, 1 ≤ o.1 ∧ o.1 ≤ 6) : l.length = (ofL l 1).length + (ofL l 2).length + (ofL l 3).length + (ofL l 4).length + (ofL l 5).length + (ofL l 6).length := by
  induction l with
  | nil => rfl
  | cons o r ih =>
    have ho := hl o (List.mem_cons_self ..)
    have ih' := ih fun p hp => hl p (List.mem_cons_of_mem _ hp)
    simp only [ofL_cons, List.length_cons]
    rcases (show o.1 = 1 ∨ o.1 = 2 ∨ o.1 = 3 ∨ o.1 = 4 ∨ o.1 = 5 ∨ o.1 = 6 by omega) with e | e | e | e | e | e <;> rw [e] <;> simp <;> omega
theorem len_of_deals {h g : List Op3} (hh : ∀ o ∈ h, 1 ≤ o.1 ∧ o.1 ≤ 6) (hg : ∀ o ∈ g, 1 ≤ o.1 ∧ o.1 ≤ 6) (hd : dealsEq h g) : h.length = g.length := by
  rw [sum_six h hh, sum_six g hg, hd 1 (by omega) (by omega), hd 2 (by omega) (by omega), hd 3 (by omega) (by omega), hd 4 (by omega) (by omega), hd 5 (by omega) (by omega), hd 6 (by omega) (by omega)]
/-- Where an op of the one stands in the other; 0 if nowhere. -/
def spot (h g : List Op3) (i : Nat) : Nat := (placeOf g (opAt h i).1 (nthAt h i)).getD 0
end Go.Proofs.Ytmjjiehnjghndaa
