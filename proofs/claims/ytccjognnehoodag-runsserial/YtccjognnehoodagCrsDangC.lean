/-
  PROVED HERE: package danger's Run, Edges and Pivots keep what they are asked (RunsC, AntC, PivC). Old memory stays as it was.
  Conditions: none.
-/
import Derived.Test.YtccjognnehoodagMgbw
import Derived.Test.YtccjognnehoodagCrsDang2
import Derived.Test.YtccjognnehoodagSerLib
namespace Go.Proofs.Ytccjognnehoodag

theorem sortC : SortC := fun zs v base n w hn hl h => sort_own zs v base n w hn hl h
theorem dangerC : RunsC 11 3 okBtw false := danger_sort sortC
theorem antC : AntC 20 := ant_sort sortC
theorem pivC : PivC 12 := piv_sort sortC
end Go.Proofs.Ytccjognnehoodag
