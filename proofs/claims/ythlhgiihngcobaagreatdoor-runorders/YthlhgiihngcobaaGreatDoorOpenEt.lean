/-
  PROVED HERE: what the listed variable errors.errorType holds, out of its reading.
  Conditions: none of this text's own.
-/
import Derived.Test.YthlhgiihngcobaaGreatDoorChecked
import Derived.Test.YthlhgiihngcobaaGreatDoorMgaf
import Derived.ProofKit
import Derived.OpenShut
import Derived.ChangeSame
import Derived.ChangeVars
import Derived.JoinedOf
import Derived.LaidLaws
import Derived.LaidHandle
import Derived.Stop.Joined
import Derived.SizedLaws
set_option maxHeartbeats 32000000
set_option maxRecDepth 100000
namespace Go.Proofs.YthlhgiihngcobaaGreatDoor
open Go.ChangeShapes Go.WideShapes Go.ChangeAt Go.RowKit
theorem own:ownKnob Tryz.prog.godebug=none:=by kernel_rfl
theorem znf:laidOutB Tryz.prog=true:=by kernel_rfl
theorem et_no:Tryz.prog.globalNamed "errors.errorType" = some 1:=by kernel_rfl
theorem zoo:(Tryz.prog.cutTypes.find? (·.1 == "internal/reflectlite.rtype")).map (·.2)=some 239:=by kernel_rfl
theorem znQ:((List.range 369).filter fun t=>Tryz.prog.rowNamed t [101,114,114,111,114])=[39]:=by kernel_rfl
theorem zmJ:Tryz.prog.types.size=369:=by kernel_rfl
theorem et_handle:typeHandle Tryz.prog 39=.pointer (some ⟨6,39,none⟩):=by kernel_rfl
theorem handle_at{W:World}{name:List UInt8}{u ty:Nat}(e1:some [101,114,114,111,114]=some name)(e2:(Tryz.prog.cutTypes.find? (·.1 == "internal/reflectlite.rtype")).map (·.2)=some u)(e3:ty<Tryz.prog.types.size)(e4:Tryz.prog.rowNamed ty name=true)
  (e5:W.var? Tryz.prog "errors.errorType" = some #[.iface u (.agg #[typeHandle Tryz.prog ty])]):EtAt W:=by
 have en:name=[101,114,114,111,114]:=(Option.some.inj e1).symm;subst en;obtain rfl:=Option.some.inj (zoo.symm.trans e2);have hm:ty∈(List.range 369).filter fun t=>Tryz.prog.rowNamed t [101,114,114,111,114]:=List.mem_filter.2 ⟨List.mem_range.2 (by rw[<-zmJ];exact e3),e4⟩;rw[znQ]at hm;obtain rfl:=List.mem_singleton.1 hm;rw[et_handle]at e5;unfold EtAt;simpa using World.var?_cell et_no e5 0
end Go.Proofs.YthlhgiihngcobaaGreatDoor
