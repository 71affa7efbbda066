/-
  PROVED HERE: what the five listed variables hold, out of their reading (Globs); the heap that the door's own run leaves meets the condition.
  Conditions: none of this text's own.
-/
import Derived.Test.YthlhgiihngcobaaGreatDoorRows
import Derived.Test.YthlhgiihngcobaaGreatDoorMgaf
import Derived.Test.YthlhgiihngcobaaGreatDoorOpenEt
import Derived.Test.YthlhgiihngcobaaGreatDoorMgad
import Derived.Stop.LaidErr
import Derived.LaidMore
set_option maxHeartbeats 32000000
set_option maxRecDepth 100000
namespace Go.Proofs.YthlhgiihngcobaaGreatDoor
open Go.ChangeShapes Go.WideShapes Go.ChangeAt Go.RowKit
abbrev zdY:List (String × DataW Unit):=[("math/bits.deBruijn32tab",Rows.laid_math_bits_deBruijn32tab),("math/bits.deBruijn64tab",Rows.laid_math_bits_deBruijn64tab),("internal/strconv.uint64pow10",Rows.laid_internal_strconv_uint64pow10),("errors.errorType",Rows.laid_errors_errorType),("locklane/run.errBad",Rows.laid_locklane_run_errBad)]
theorem zl5:(Tryz.prog.globals[3]?).map (·.type)=some 305:=by kernel_rfl
theorem zjU:Tryz.prog.cellsOf 305=20:=by kernel_rfl
theorem zlu:Tryz.prog.cellsOf 288=1:=by kernel_rfl
theorem zk0:(Rows.laid_internal_strconv_uint64pow10:DataW Unit)=Lib.tabData .u64 Lib.pow10Tab:=by kernel_rfl
theorem zmv:Tryz.prog.globalNamed "locklane/run.errBad" = some 0:=by kernel_rfl
theorem zla:(Tryz.prog.globals[0]?).map (·.type)=some 39:=by kernel_rfl
theorem zlO:Tryz.prog.cellsOf 357=1:=by kernel_rfl
theorem zkp:Tryz.prog.cellsOf 9=1:=by kernel_rfl
theorem zoa(u:TypeId)(h:Tryz.prog.typeName? 3 u=Tryz.prog.typeName? 3 337):u=337 :=typeName_ptr_named (nm := "errors.errorString") (by kernel_rfl) (by kernel_rfl) (by decide) u (h.trans (by kernel_rfl))
theorem zfi{W:World}(h:laidMetH Tryz.prog zdY W):zdK W:=by
 obtain⟨h1,h2⟩:laidMet Tryz.prog [("math/bits.deBruijn32tab",Rows.laid_math_bits_deBruijn32tab),("math/bits.deBruijn64tab",Rows.laid_math_bits_deBruijn64tab),("internal/strconv.uint64pow10",Rows.laid_internal_strconv_uint64pow10),("locklane/run.errBad",Rows.laid_locklane_run_errBad)] W/\handlesMet Tryz.prog [("errors.errorType",Rows.laid_errors_errorType)] W:=h;refine⟨?_,?_,?_⟩
 ·obtain⟨name,u,ty,e1,e2,e3,e4,e5⟩:=h2 _ (List.mem_singleton.2 rfl);exact handle_at e1 e2 e3 e4 e5
 ·obtain⟨a,s,hv,hc,hs,_⟩:=laid_sentinel h1.tail.tail.tail zmv zla Tryz.underlying39 (fun u h=>zoa u (h.trans (by kernel_rfl))) Tryz.underlying337 Tryz.underlying357 rfl rfl Tryz.underlying9 zlO zkp;refine⟨a,by simpa using World.var?_cell zmv hv 0,?_⟩;rw[hc,zaY (s:=s) (t:=⟨#[98,97,100]⟩) hs]
 ·have h3:=h1.tail.tail;rw[zk0]at h3;exact Lib.tabIs_of_head zko zl5 Tryz.underlying305 Tryz.underlying288 zlu zjU h3
theorem zgU(os:Os)(args:Array Value):laidMetH Tryz.prog zdY ((World.doorLaid Tryz.prog 400 os).forCall (fun _ _=>0) ⟨#[],args,[]⟩).memory :=laidMetH_of_parts3 (fuel:=8) (laidMet_of_run' 8 (by kernel_rfl) (by kernel_rfl)) (by kernel_rfl) (by kernel_rfl)
end Go.Proofs.YthlhgiihngcobaaGreatDoor
