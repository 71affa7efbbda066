/-
  PROVED HERE: what the five listed variables hold, out of their reading (Globs); the heap that the door's own run leaves meets the condition.
  Conditions: none of this text's own.
-/
import Derived.Test.YthlhgiihngcobaaGreatDoorRows
import Derived.Test.YthlhgiihngcobaaGreatDoorMgaf
import Derived.Test.YthlhgiihngcobaaGreatDoorOpenEt
import Derived.Test.YthlhgiihngcobaaGreatDoorMgad
import Derived.Stop.LaidErr
import Derived.LaidMore
namespace Go.Proofs.YthlhgiihngcobaaGreatDoor
open Go.ChangeShapes Go.WideShapes Go.ChangeAt Go.RowKit
abbrev zi0:List(String × DataW Unit):=[("math/bits.deBruijn32tab",Rows.laid_math_bits_deBruijn32tab),("math/bits.deBruijn64tab",Rows.laid_math_bits_deBruijn64tab),("internal/strconv.uint64pow10",Rows.laid_internal_strconv_uint64pow10),("errors.errorType",Rows.laid_errors_errorType),("locklane/run.errBad",Rows.laid_locklane_run_errBad)]
theorem zxI:(Tryz.prog.globals[3]?).map(·.type)=some 305:=by kernel_rfl
theorem zuf:Tryz.prog.cellsOf 305=20:=by kernel_rfl
theorem zxY:Tryz.prog.cellsOf 288=1:=by kernel_rfl
theorem zzu:(Rows.laid_internal_strconv_uint64pow10:DataW Unit)=Lib.tabData .u64 Lib.pow10Tab:=by kernel_rfl
theorem zzP:Tryz.prog.globalNamed "locklane/run.errBad" = some 0:=by kernel_rfl
theorem zxi:(Tryz.prog.globals[0]?).map(·.type)=some 39:=by kernel_rfl
theorem zxl:Tryz.prog.cellsOf 357=1:=by kernel_rfl
theorem zt0:Tryz.prog.cellsOf 9=1:=by kernel_rfl
theorem zwM : "*" ++ "errors.errorString" = "*errors.errorString" := by decide
theorem zCL(u:TypeId)(h:Tryz.prog.typeName? 3 u=some "*errors.errorString"):u=337 :=
 typeName_ptr_named(nm := "errors.errorString")(by rw[zwM];kernel_rfl)(by kernel_rfl)(by decide)u(by rw[zwM];exact h)
theorem zlq {W:World}(h:laidMetH Tryz.prog zi0 W):ziZ W:=by
 obtain⟨h1,h2⟩:laidMet Tryz.prog [("math/bits.deBruijn32tab",Rows.laid_math_bits_deBruijn32tab),("math/bits.deBruijn64tab",Rows.laid_math_bits_deBruijn64tab),("internal/strconv.uint64pow10",Rows.laid_internal_strconv_uint64pow10),("locklane/run.errBad",Rows.laid_locklane_run_errBad)]W∧handlesMet Tryz.prog [("errors.errorType",Rows.laid_errors_errorType)]W:=h
 refine⟨?_,?_,?_⟩
 ·obtain⟨name,u,ty,e1,e2,e3,e4,e5⟩:=h2 _(List.mem_singleton.2 rfl)
  exact zum e1 e2 e3 e4 e5
 ·obtain⟨a,s,hv,hc,hs,_⟩:=laid_sentinel h1.tail.tail.tail zzP zxi Tryz.underlying39 zCL Tryz.underlying337 Tryz.underlying357 rfl rfl Tryz.underlying9 zxl zt0
  refine⟨a,by simpa using World.var?_cell zzP hv 0,?_⟩
  rw[hc,zbd(s:=s)(t:=⟨#[98,97,100]⟩)hs]
 ·have h3:=h1.tail.tail
  rw[zzu]at h3
  exact Lib.tabIs_of_head zu6 zxI Tryz.underlying305 Tryz.underlying288 zxY zuf h3
theorem zo0(os:Os)(args:Array Value):laidMetH Tryz.prog zi0((World.doorLaid Tryz.prog 400 os).forCall(fun _ _=>0)⟨#[],args,[]⟩).memory :=
 laidMetH_of_parts3(fuel:=8)(laidMet_of_run' 8(by kernel_rfl)(by kernel_rfl))(by kernel_rfl)(by kernel_rfl)
end Go.Proofs.YthlhgiihngcobaaGreatDoor
