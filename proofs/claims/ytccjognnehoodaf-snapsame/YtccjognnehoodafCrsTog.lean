/-
  PROVED HERE: package snap's Together keeps what it is asked (TogC). Old memory stays as it was.
  Conditions: none.
-/
import Derived.Test.YtccjognnehoodafCrsTog0
import Derived.Test.YtccjognnehoodafSerLib
namespace Go.Proofs.Ytccjognnehoodaf

theorem togC : TogC 17 := tog_sort fun zs v base n w hn hl h => sort_own zs v base n w hn hl h
end Go.Proofs.Ytccjognnehoodaf
