/-
  PROVED HERE: slices.Contains, Equal, Sort and Clone at lists of numbers, in the words of these texts: a list that lies in memory, a list that the call itself has made. Old memory stays as it was.
  Conditions: none.
  (Of these, what the claim wants: the rest was left out.)
-/
import Derived.Test.YtmjjiehnjghndaaShelf
import Derived.Test.YtmjjiehnjghndaaSerPlain
import Derived.Test.YtmjjiehnjghndaaIntRow
import Derived.OwnWalk
import Derived.Deep.Onto
import Derived.Laws.AppendOwnNone
import Derived.Lib.SliceRun
import Derived.WalkSmall
import Derived.Sort.OwnSortedInts
namespace Go.Proofs.Ytmjjiehnjghndaa
open Go.RowKit Go.Sort

theorem contains_ints (l : List Int) (v : Value) (x : Int) (w : World) (hI : IsInts w v l) (hl : l.length ≤ 1000) :
    Calls Try.prog 30 #[v, .int .i64 x] w fun e w' => e = .returned (.bool (inB l x)) ∧ w' = w := by
  obtain ⟨ad, b, off, cap, rfl, ha, -, -, hc⟩ := hI
  by_cases h0 : l = []
  · subst h0
    exact Any.slices_Contains_int_empty Try.lays107 ad cap x w
  · obtain rfl := ha (List.length_pos_iff.2 h0)
    refine (Any.slices_Contains_int Try.lays107 b off l.length cap l x w (Nat.le_refl _) (by omega) hc).mono ?_
    rintro e w' ⟨he, hw⟩
    rw [List.take_length] at he
    exact ⟨he, hw⟩
end Go.Proofs.Ytmjjiehnjghndaa
