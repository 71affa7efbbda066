/-
  PROVED HERE: laneref1.End answers as the plain function endOf says of the first ops of a list; nothing yet of package ills.
  Conditions: none but those that each theorem's own premises say.
-/
import Derived.Test.YthlhgiihngcobaaGreatDoorMgai
import Derived.Test.YthlhgiihngcobaaGreatDoorMgas
import Derived.Deep.QuietTactic
import Derived.BigQuiet
import Derived.WalkSmall
import Derived.Test.YthlhgiihngcobaaGreatDoorMgaj
set_option maxHeartbeats 32000000
set_option maxRecDepth 100000
namespace Go.Proofs.YthlhgiihngcobaaGreatDoor
open Go.RowKit
theorem zfJ{x y:Int}(h:x=y):Ending.returned (.int .i64 x)=.returned (.int .i64 y):=by rw[h]
end Go.Proofs.YthlhgiihngcobaaGreatDoor
namespace Go.Proofs.YthlhgiihngcobaaGreatDoor
open Go.RowKit
def zod(l:List Op3):Bool × Bool × Bool × Bool:=if(chk l).2≠0 then(false,false,false,false)else(zjK l).1
def zml(l:List Op3):Int × Int:=if(chk l).2≠0 then(0,(chk l).2)else if(zjK l).2<0 then(0,5)else((zjK l).2,0)
def zlA(x:Bool × Bool × Bool × Bool):Value:=.agg #[.bool x.1,.bool x.2.1,.bool x.2.2.1,.bool x.2.2.2]
end Go.Proofs.YthlhgiihngcobaaGreatDoor
