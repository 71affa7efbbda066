/-
  PROVED HERE: errors.As at the one target that package plain asks with ('var e api.Errno; errors.As(err, &e)'): a nil error is answered false; an api.Errno is answered true, and the target holds it. plain.Told and lanesame.Error by their contracts.
  Conditions: the variable errors.errorType holds the handle of the type error (the row lists it).
  (Of these, what the claim wants: the rest was left out.)
-/
import Derived.Test.YthlhgiihngcobaaGreatDoorProg
import Derived.WalkKit
import Derived.LaidEql
import Derived.Stop.Asserts
import Derived.RowKitTokens
import Derived.Handy
set_option maxHeartbeats 32000000
set_option maxRecDepth 100000
namespace Go.Proofs.YthlhgiihngcobaaGreatDoor
open Go.RowKit Go.Extern.Stop Go.Stop Go.Extern
theorem zjf(f:Value->Value->Sem Value)(g:Array Value->Sem Value)(v x:Value):ReflectliteValue.set.match_3 (fun _=>Sem Value) #[v,x] f g=f v x:=rfl
theorem zdE(f:Value->Sem Value)(g:Array Value->Sem Value)(v:Value):ReflectliteValue.method.match_2 (fun _=>Sem Value) #[v] f g=f v:=rfl
theorem zd0(t:Addr)(w:World):(ReflectliteValue.unpack (.iface 82 (.pointer (some t)))).run Tryz.prog w
  = .ok (.agg #[.pointer (some ⟨6,82,none⟩),.pointer (some ⟨w.heap.size,0,none⟩),.int .u64 150]) (w.alloc (.cells #[.pointer (some t)] 82)):=by kernel_rfl
theorem zhR(a:Addr)(w:World):(ReflectliteValue.methodAny (ReflectliteValue.valueError "reflectlite.Value.Type" 0) (fun t _ _ _=>ReflectliteType.toType t) #[.agg #[.pointer (some ⟨6,82,none⟩),.pointer (some a),.int .u64 150]]).run Tryz.prog w
  = .ok (.iface 239 (.agg #[.pointer (some ⟨6,82,none⟩)])) w:=by kernel_rfl
theorem zhx(w:World):((ReflectliteType.abiMethod fun t=>Functor.map (fun a:Nat=>Value.int IntKind.u8 (a:Int)) (Rtype.kind t)) #[.pointer (some ⟨6,82,none⟩)]).run Tryz.prog w=.ok (.int .u8 22) w:=by kernel_rfl
theorem zhM(w:World):((ReflectliteType.abiMethod fun t=>Functor.map (fun a:Nat=>Value.int IntKind.u8 (a:Int)) (Rtype.kind t)) #[.pointer (some ⟨6,80,none⟩)]).run Tryz.prog w=.ok (.int .u8 2) w:=by kernel_rfl
theorem zf6(a:Addr)(w:World):(ReflectliteValue.parts (.agg #[.pointer (some ⟨6,82,none⟩),.pointer (some a),.int .u64 150])).run Tryz.prog w=.ok (some (82,a,150)) w:=by kernel_rfl
theorem zfQ(a p:Addr)(W:World)(ha:W.cell? a=some (.pointer (some p))):(ReflectliteValue.method (ReflectliteValue.valueError "reflectlite.Value.IsNil" 0) ReflectliteValue.isNil #[.agg #[.pointer (some ⟨6,82,none⟩),.pointer (some a),.int .u64 150]]).run Tryz.prog W=.ok (.bool false) W:=by unfold ReflectliteValue.method;rw[zdE];simp only[Sem.run_bind,zf6,Result.andThen];simp[ReflectliteValue.isNil,loadVar,isAgg,underlying,Tryz.underlying82,ha,Result.andThen]
theorem zhJ(w:World):(ReflectliteType.method ReflectliteType.elem #[.agg #[.pointer (some ⟨6,82,none⟩)]]).run Tryz.prog w=.ok (.iface 239 (.agg #[.pointer (some ⟨6,80,none⟩)])) w:=by kernel_rfl
theorem zc2(w:World):(ReflectliteType.relation "Implements" ReflectliteType.implements_ #[.agg #[.pointer (some ⟨6,80,none⟩)],.iface 239 (.agg #[.pointer (some ⟨6,39,none⟩)])]).run Tryz.prog w=.ok (.bool true) w:=by kernel_rfl
theorem zfg(v:Value)(w:World):(ReflectliteType.typeOf #[.iface 80 v]).run Tryz.prog w=.ok (.iface 239 (.agg #[.pointer (some ⟨6,80,none⟩)])) w:=by kernel_rfl
theorem zc6(w:World):(ReflectliteType.relation "AssignableTo" ReflectliteType.assignableTo #[.agg #[.pointer (some ⟨6,80,none⟩)],.iface 239 (.agg #[.pointer (some ⟨6,80,none⟩)])]).run Tryz.prog w=.ok (.bool true) w:=by kernel_rfl
theorem zdV(n:Int)(w:World):(ReflectliteValue.unpack (.iface 80 (.int .i64 n))).run Tryz.prog w
  = .ok (.agg #[.pointer (some ⟨6,80,none⟩),.pointer (some ⟨w.heap.size,0,none⟩),.int .u64 130]) (w.alloc (.cells #[.int .i64 n] 80)):=by kernel_rfl
theorem zix(w:World):(Rtype.elem? 82).run Tryz.prog w=.ok (some 80) w:=by kernel_rfl
theorem zoc(p:Addr)(w:World):(ReflectliteValue.mk 80 p ReflectliteValue.flagAddr).run Tryz.prog w=.ok (.agg #[.pointer (some ⟨6,80,none⟩),.pointer (some p),.int .u64 386]) w:=by kernel_rfl
theorem zlE(a p:Addr)(W:World)(ha:W.cell? a=some (.pointer (some p))):(ReflectliteValue.method (ReflectliteValue.valueError "reflectlite.Value.Elem" 0) ReflectliteValue.elem #[.agg #[.pointer (some ⟨6,82,none⟩),.pointer (some a),.int .u64 150]]).run Tryz.prog W
   = .ok (.agg #[.pointer (some ⟨6,80,none⟩),.pointer (some p),.int .u64 386]) W:=by
 unfold ReflectliteValue.method;rw[zdE];simp only[Sem.run_bind,zf6,Result.andThen];simp[ReflectliteValue.elem,loadVar,isAgg,underlying,Tryz.underlying82,ha,Result.andThen,zix,zoc]
theorem ziQ(a:Addr)(w:World):(ReflectliteValue.parts (.agg #[.pointer (some ⟨6,80,none⟩),.pointer (some a),.int .u64 386])).run Tryz.prog w=.ok (some (80,a,386)) w:=by kernel_rfl
theorem zkl(a:Addr)(w:World):(ReflectliteValue.parts (.agg #[.pointer (some ⟨6,80,none⟩),.pointer (some a),.int .u64 130])).run Tryz.prog w=.ok (some (80,a,130)) w:=by kernel_rfl
theorem zkQ(w:World):(Rtype.directlyAssignable 80 80).run Tryz.prog w=.ok true w:=by kernel_rfl
theorem zn2(ta b:Addr)(n:Int)(old:Value)(W:World)(hb:W.cell? b=some (.int .i64 n))(ht:W.cell? ta=some old)(hf:W.frozen? ta=false):(ReflectliteValue.set #[.agg #[.pointer (some ⟨6,80,none⟩),.pointer (some ta),.int .u64 386],.agg #[.pointer (some ⟨6,80,none⟩),.pointer (some b),.int .u64 130]]).run Tryz.prog W
   = .ok (.tuple #[]) (W.setCell ta (.int .i64 n)):=by
 unfold ReflectliteValue.set;rw[zjf];simp only[Sem.run_bind,ziQ,zkl,Result.andThen];simp[ReflectliteValue.flagAddr,loadVar,isAgg,underlying,Tryz.underlying80,hb,Result.andThen,zkQ,storeVar,Value.cells,storeCells,Addr.add];rw[run_store Tryz.prog W ta _ _ (by rfl)];simp[ht,hf]
end Go.Proofs.YthlhgiihngcobaaGreatDoor
