/-
  PROVED HERE: package snap's Together keeps what it is asked (TogC). Old memory stays as it was.
  Conditions: none.
-/
import Derived.Test.YtgmicdiffmhemagCrsTog0
import Derived.Test.YtgmicdiffmhemagSerLib
namespace Go.Proofs.Ytgmicdiffmhemag

theorem togC : TogC 18 := tog_sort fun zs v base n w hn hl h => sort_own zs v base n w hn hl h
end Go.Proofs.Ytgmicdiffmhemag
