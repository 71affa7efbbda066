/-
  PROVED HERE: nothing yet: what slices.Sort is asked at a row of whole numbers.
  Conditions: none.
-/
import Derived.Test.YtccjognnehoodafMgad
import Derived.Test.YtccjognnehoodafSerPlain
namespace Go.Proofs.Ytccjognnehoodaf
open Go.RowKit

/-- What slices.Sort is asked at a row of numbers of one's own. -/
def SortC : Prop := ∀ (zs : List Int) (v : Value) (base n : Nat) (w : World), zs.length = n → zs.length ≤ 1000 → w.ownsRow base 3 1 v n (zs.map (Value.int .i64)) →
  Calls Try.prog 46 #[v] w fun e w' => e = .returned (.tuple #[]) ∧ w'.ownsRow base 3 1 v n ((sortI zs).map (Value.int .i64)) ∧ w.grownBy w' v.ownBlock
end Go.Proofs.Ytccjognnehoodaf
