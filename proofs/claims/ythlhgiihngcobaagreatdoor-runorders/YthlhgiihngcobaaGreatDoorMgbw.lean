/-
  PROVED HERE: how a table of locks (two lists in rows of its own) lies in memory, and what of it stands when only some; slices.Backward over a row of deals hands each to the loop's body, from the last on.
  Conditions: none but those that each theorem's own premises say.
-/
import Derived.Test.YthlhgiihngcobaaGreatDoorMgav
import Derived.Test.YthlhgiihngcobaaGreatDoorMgag
import Derived.Test.YthlhgiihngcobaaGreatDoorMgai
import Derived.Test.YthlhgiihngcobaaGreatDoorMgap
import Derived.OwnWalk
import Derived.Laws.Rows
import Derived.Test.YthlhgiihngcobaaGreatDoorMgaj
import Derived.Test.YthlhgiihngcobaaGreatDoorMgah
import Derived.Test.YthlhgiihngcobaaGreatDoorMgaw
import Derived.Laws.CopyOwn
import Derived.BigQuiet
import Derived.Deep.QuietTactic
import Derived.WalkSmall
import Derived.Test.YthlhgiihngcobaaGreatDoorMgat
import Derived.Maps.OwnSet
import Derived.Maps.RangeWalk
import Derived.WalkKit
import Derived.WalkSpells
import Derived.Handy
import Derived.Deep.RegionLaw
import Derived.Laws.AppendOwn
import Derived.ArgAppend
import Derived.Test.YthlhgiihngcobaaGreatDoorMgbd
import Derived.Deep.Cut
import Derived.Deep.RegionHeld3
import Derived.RangeFuncNested
import Derived.RangeFuncBox
import Derived.RangeFuncBound
import Derived.RangeFuncCalls
import Derived.RangeFuncLeaves
import Derived.Shelf.Abstract
import Derived.Shelf.RegionOpen
import Derived.OwnWalkIn
import Derived.TacticsInMore
import Derived.LoopNIn
import Derived.LoopIn
set_option maxHeartbeats 32000000
set_option maxRecDepth 100000
namespace Go.Proofs.YthlhgiihngcobaaGreatDoor
open Go.RowKit
theorem zma{w:World}{base base2 e size n:Nat}{v:Value}{xs:List Value}(h:w.ownsRow base e size v n xs)(hb:base2<=base):w.ownsRow base2 e size v n xs:=by
 obtain⟨hl,hd | ⟨g,cap,cur,hv,hbg,hg,hn,hm,hsz,htk⟩⟩:=h
 ·exact⟨hl,.inl hd⟩
 ·exact⟨hl,.inr ⟨g,cap,cur,hv,Nat.le_trans hb hbg,hg,hn,hm,hsz,htk⟩⟩
section
variable {w w1:World} {F:Nat->Prop} {ty:TypeId} {T o:Nat} {cs:Array Value} {hv wv v:Value} {s:zoC}
end
end Go.Proofs.YthlhgiihngcobaaGreatDoor
namespace Go.Proofs.YthlhgiihngcobaaGreatDoor
open Go.RowKit Go.Shelf
attribute [local go_sem] Oper.semAt_some
end Go.Proofs.YthlhgiihngcobaaGreatDoor
