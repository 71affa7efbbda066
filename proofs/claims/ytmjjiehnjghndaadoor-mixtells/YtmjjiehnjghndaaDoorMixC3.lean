/-
  PROVED HERE: what lanelaw3.MixTells asks of laneref1.Order.
  Conditions: none.
-/
import Derived.Test.YtmjjiehnjghndaaDoorMgav
import Derived.Test.YtmjjiehnjghndaaDoorSerUnited
namespace Go.Proofs.YtmjjiehnjghndaaDoor
open Go.RowKit

theorem refOrdC : RefOrdC := fun l v w h hc => refOrd_u l v w h hc
end Go.Proofs.YtmjjiehnjghndaaDoor
