/-
  PROVED HERE: what lanelaw2.StampOrders asks of odds.Edges, serial.Order and history.Of.
  Conditions: none.
-/
import Derived.Test.YtppbplhpldoccafSpOrdWalk
import Derived.Test.YtppbplhpldoccafOddEdgesWalk
import Derived.Test.YtppbplhpldoccafSerOrder
import Derived.Test.YtppbplhpldoccafDone
namespace Go.Proofs.Ytppbplhpldoccaf
open Go.RowKit

theorem edgesC : EdgesC := fun l v w h hc => edges_ok l v w h hc
theorem orderC : OrderC := fun l v o w h hc ho => (ord_any l v w h hc).mono fun e w' ⟨hor, hb⟩ => by
  rcases hor with ⟨o2, v', h1, h2, h3⟩ | ⟨h1, -⟩
  · rw [ho] at h1
    obtain rfl := Option.some.inj h1
    exact ⟨v', h2, h3, hb⟩
  · rw [ho] at h1
    cases h1
theorem ofC : OfC := fun l v t w h hc h1 h6 => of_ok l v t w h hc h1 h6
end Go.Proofs.Ytppbplhpldoccaf
