/-
  PROVED HERE: package snap's Together keeps what it is asked (TogC). Old memory stays as it was.
  Conditions: none.
-/
import Derived.Test.YtccjognnehoodagCrsTog0
import Derived.Test.YtccjognnehoodagSerLib
namespace Go.Proofs.Ytccjognnehoodag

theorem togC : TogC 18 := tog_sort fun zs v base n w hn hl h => sort_own zs v base n w hn hl h
end Go.Proofs.Ytccjognnehoodag
