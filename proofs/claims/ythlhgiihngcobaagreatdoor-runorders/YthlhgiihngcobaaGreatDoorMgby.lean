/-
  PROVED HERE: package run's session answers a line that asks; errors.As at a fault of package run that embeds another error, at the target that package run asks with.
  Conditions: none but those that each theorem's own premises say.
-/
import Derived.Test.YthlhgiihngcobaaGreatDoorMgbx
import Derived.BigQuiet
import Derived.Test.YthlhgiihngcobaaGreatDoorMgaf
set_option maxHeartbeats 32000000
set_option maxRecDepth 100000
namespace Go.Proofs.YthlhgiihngcobaaGreatDoor
open Go.RowKit
theorem zjJ(l:List UInt8)(w:World):Calls Tryz.prog 19 #[zay l,.string ⟨#[104,105,115,116,111,114,121,32]⟩] w fun e w'=>e=.returned (.tuple #[zay (if l.take 8=zbb then l.drop 8 else l),.bool (decide (l.take 8=zbb))])/\w'=w:=by
 have e1:Lib.hasPrefix l zbb=decide (l.take 8=zbb):=by unfold Lib.hasPrefix;rw[Bool.eq_iff_iff,List.isPrefixOf_iff_prefix,decide_eq_true_iff,List.prefix_iff_eq_take];exact⟨fun h=>h.symm,fun h=>h.symm⟩
 have e2:Lib.trimPrefix l zbb=if l.take 8=zbb then l.drop 8 else l:=by
  unfold Lib.trimPrefix;rw[e1];by_cases h:l.take 8=zbb
  ·rw[decide_eq_true h,if_pos h];rfl
  ·rw[decide_eq_false h,if_neg h];rfl
 have h:=Any.strings_CutPrefix Tryz.lays103 ⟨l.toArray⟩ ⟨#[104,105,115,116,111,114,121,32]⟩ w;refine h.mono ?_;rintro e w' ⟨rfl,hw⟩;refine⟨?_,hw⟩;show Ending.returned (.tuple #[zay (Lib.trimPrefix l zbb),.bool (Lib.hasPrefix l zbb)])=_;rw[e1,e2]
theorem zj5(l:List UInt8)(w:World)(h:l.take 8≠zbb):Calls Tryz.prog 19 #[zay l,.string ⟨#[104,105,115,116,111,114,121,32]⟩] w fun e w'=>e=.returned (.tuple #[zay l,.bool false])/\w'=w:=by refine(zjJ l w).mono ?_;rintro e w' ⟨rfl,hw⟩;exact⟨by rw[if_neg h,decide_eq_false h],hw⟩
def zmF(w w0:World)(t:List UInt8)(e:Ending):Prop:=∃x y,e=.returned (.tuple #[x,y])/\zjj w x y t/\Below w0.heap.size w0 w
def DoC(sb:Nat)(w:World)(t l:List UInt8):Prop:=Calls Tryz.prog 15 #[.pointer (some ⟨sb,0,none⟩),zay l] w fun e w'=>zmF w' w t e
theorem zg5{sb:Nat}{v:Value}{w:World}{t:List UInt8}(hv:w.cell? ⟨sb,0,none⟩=some v):(Two 22 #[v] 21 w t->DoC sb w t [111,114,100,101,114]) /\
  (Two 23 #[v] 21 w t->DoC sb w t [118,105,101,119]) /\
  (Two 25 #[v] 24 w t->DoC sb w t [102,97,99,101,115]) /\
  (Two 27 #[v] 26 w t->DoC sb w t [105,108,108,115]) /\
  (Two 28 #[v] 21 w t->DoC sb w t [118,97,108,117,101,115]) /\
  (zk9 30 #[v,.int .i64 0] 29 w t->DoC sb w t [100,101,116,101,99,116]) /\
  (zk9 30 #[v,.int .i64 1] 29 w t->DoC sb w t [119,97,105,116,100,105,101]) /\
  (zk9 30 #[v,.int .i64 2] 29 w t->DoC sb w t [119,111,117,110,100,119,97,105,116]) /\
  (zk9 31 #[v,.bool false] 29 w t->DoC sb w t [115,116,97,109,112]) /\
  (Two 33 #[v] 32 w t->DoC sb w t [118,97,108,105,100]) /\
  (Two 34 #[v] 32 w t->DoC sb w t [115,110,97,112]) /\
  (Two 35 #[v] 32 w t->DoC sb w t [100,97,110,103,101,114]) /\
  (Two 36 #[v] 32 w t->DoC sb w t [118,101,114,115,105,111,110,115]):=by
 have HP:Hid (∀(W:World) (x y:Value),zjj W x y t->Below w.heap.size w W->zmF W w t (.returned (.tuple #[x,y]))):=fun W x y a b=>⟨x,y,rfl,a,b⟩;refine⟨?_,?_,?_,?_,?_,?_,?_,?_,?_,?_,?_,?_,?_⟩
 all_goals
  intro h2;have H2:=zaf h2;clear h2;unfold DoC;go_enter Tryz.func15,Tryz.ntmps15;go_wp2_with (first | (go_at_call 19;refine(zj5 _ _ (by decide)).mono ?_;rintro e w ⟨rfl,rfl⟩) | ((first | go_at_call 22 | go_at_call 23 | go_at_call 25 | go_at_call 27 | go_at_call 28 | go_at_call 33 | go_at_call 34 | go_at_call 35 | go_at_call 36);refine H2.out.mono ?_;rintro e w1 ⟨v1,v2,rfl,hT,hb1⟩) | ((first | go_at_call 30 | go_at_call 31);refine H2.out.mono ?_;rintro e w1 ⟨v1,v2,v3,rfl,hT,hb1⟩) | ((first | go_at_call 21 | go_at_call 24 | go_at_call 26 | go_at_call 29 | go_at_call 32);refine hT.mono ?_;rintro e w2 ⟨x,y,rfl,hE,hb2⟩;have HE:=zaf hE;have HB2:Hid (Below w.heap.size w w2):=hb1.trans (hb2.mono hb1.size);clear hE hb2));go_ret2;exact HP.out _ _ _ HE.out HB2.out
end Go.Proofs.YthlhgiihngcobaaGreatDoor
namespace Go.Proofs.YthlhgiihngcobaaGreatDoor
open Go.RowKit Go.Extern.Stop Go.Stop Go.Extern
theorem ze9(v:Value)(w:World):(ReflectliteType.typeOf #[.iface 51 v]).run Tryz.prog w=.ok (.iface 239 (.agg #[.pointer (some ⟨6,51,none⟩)])) w:=by kernel_rfl
theorem zje(w:World):(ReflectliteType.relation "AssignableTo" ReflectliteType.assignableTo #[.agg #[.pointer (some ⟨6,51,none⟩)],.iface 239 (.agg #[.pointer (some ⟨6,80,none⟩)])]).run Tryz.prog w=.ok (.bool false) w:=by kernel_rfl
theorem zi3(v:Value)(w:World):(ReflectliteType.typeOf #[.iface 337 v]).run Tryz.prog w=.ok (.iface 239 (.agg #[.pointer (some ⟨6,337,none⟩)])) w:=by kernel_rfl
theorem zmz(w:World):(ReflectliteType.relation "AssignableTo" ReflectliteType.assignableTo #[.agg #[.pointer (some ⟨6,337,none⟩)],.iface 239 (.agg #[.pointer (some ⟨6,80,none⟩)])]).run Tryz.prog w=.ok (.bool false) w:=by kernel_rfl
theorem zhz(v:Value)(x:TypeId)(w:World):(Instr.typeAssert (.iface 51 v) x 244 true).run Tryz.prog w=.ok (.tuple #[.nilIface,.bool false]) w :=run_typeAssert_lacksB Tryz.underlying244 (by kernel_rfl) (by kernel_rfl) v x w
theorem zmt(v:Value)(x:TypeId)(w:World):(Instr.typeAssert (.iface 51 v) x 247 true).run Tryz.prog w=.ok (.tuple #[.iface 51 v,.bool true]) w :=run_typeAssert_hasB Tryz.underlying247 (by kernel_rfl) v x w
theorem zlf(v:Value)(x:TypeId)(w:World):(Instr.typeAssert (.iface 337 v) x 244 true).run Tryz.prog w=.ok (.tuple #[.nilIface,.bool false]) w :=run_typeAssert_lacksB Tryz.underlying244 (by kernel_rfl) (by kernel_rfl) v x w
theorem zk3(v:Value)(x:TypeId)(w:World):(Instr.typeAssert (.iface 337 v) x 247 true).run Tryz.prog w=.ok (.tuple #[.nilIface,.bool false]) w :=run_typeAssert_lacksB Tryz.underlying247 (by kernel_rfl) (by kernel_rfl) v x w
theorem zks(v:Value)(x:TypeId)(w:World):(Instr.typeAssert (.iface 337 v) x 249 true).run Tryz.prog w=.ok (.tuple #[.nilIface,.bool false]) w :=run_typeAssert_lacksB Tryz.underlying249 (by kernel_rfl) (by kernel_rfl) v x w
set_option linter.defProp false
def znD:=@run_callFunc_extern Tryz.prog 98 _ (fun args=>ReflectliteValue.unpack (args.getD 0 (.tuple #[]))) Tryz.func98 (by kernel_rfl) (by kernel_rfl) (by kernel_rfl) (by kernel_rfl)
def znB:=@run_callFunc_extern Tryz.prog 99 _ (ReflectliteValue.methodAny (ReflectliteValue.valueError "reflectlite.Value.Type" 0) (fun t _ _ _=>ReflectliteType.toType t)) Tryz.func99 (by kernel_rfl) (by kernel_rfl) (by kernel_rfl) (by kernel_rfl)
def zn1:=@run_callFunc_extern Tryz.prog 100 _ (ReflectliteValue.method (ReflectliteValue.valueError "reflectlite.Value.IsNil" 0) ReflectliteValue.isNil) Tryz.func100 (by kernel_rfl) (by kernel_rfl) (by kernel_rfl) (by kernel_rfl)
def zmg:=@run_callFunc_extern Tryz.prog 296 _ (ReflectliteType.abiMethod fun t=>do pure (.int .u8 (<-Rtype.kind t))) Tryz.func296 (by kernel_rfl) (by kernel_rfl) (by kernel_rfl) (by kernel_rfl)
def zmi:=@run_callFunc_extern Tryz.prog 308 _ (ReflectliteType.method ReflectliteType.elem) Tryz.func308 (by kernel_rfl) (by kernel_rfl) (by kernel_rfl) (by kernel_rfl)
def zmp:=@run_callFunc_extern Tryz.prog 309 _ (ReflectliteType.relation "Implements" ReflectliteType.implements_) Tryz.func309 (by kernel_rfl) (by kernel_rfl) (by kernel_rfl) (by kernel_rfl)
def zmw:=@run_callFunc_extern Tryz.prog 170 _ ReflectliteType.typeOf Tryz.func170 (by kernel_rfl) (by kernel_rfl) (by kernel_rfl) (by kernel_rfl)
def zms:=@run_callFunc_extern Tryz.prog 306 _ (ReflectliteType.relation "AssignableTo" ReflectliteType.assignableTo) Tryz.func306 (by kernel_rfl) (by kernel_rfl) (by kernel_rfl) (by kernel_rfl)
def zmk:=@run_callFunc_extern Tryz.prog 171 _ (ReflectliteValue.method (ReflectliteValue.valueError "reflectlite.Value.Elem" 0) ReflectliteValue.elem) Tryz.func171 (by kernel_rfl) (by kernel_rfl) (by kernel_rfl) (by kernel_rfl)
def zmm:=@run_callFunc_extern Tryz.prog 172 _ ReflectliteValue.set Tryz.func172 (by kernel_rfl) (by kernel_rfl) (by kernel_rfl) (by kernel_rfl)
theorem zmA(n:Int)(t:Addr)(old:Value)(w:World)(hg:w.cell? ⟨1,0,none⟩=some (.iface 239 (.agg #[.pointer (some ⟨6,39,none⟩)])))(ht0:w.cell? t=some old)(hf0:w.frozen? t=false):Calls Tryz.prog 37 #[.iface 51 (.agg #[.iface 80 (.int .i64 n)]),.iface 82 (.pointer (some t))] w fun ev w'=>ev=.returned (.bool true)/\w'=(((((w.alloc (.cells #[.pointer (some t)] 82)).alloc (.cells #[.pointer (some ⟨6,82,none⟩),.pointer (some ⟨w.heap.size,0,none⟩),.int .u64 150] 175)).alloc (.cells #[.pointer (some ⟨6,82,none⟩),.pointer (some ⟨w.heap.size,0,none⟩),.int .u64 150] 175)).alloc (.cells #[.iface 80 (.int .i64 n)] 51)).alloc (.cells #[.int .i64 n] 80)).setCell t (.int .i64 n):=by
 have h6:=znD;have h7:=znB;have h8:=zn1;have h27:=zmg;have h37:=zmi;have h38:=zmp;have h10:=zmw;have h35:=zms;have h11:=zmk;have h12:=zmm;have tO:=zfg;have a25:=zc6;have v25:=zdV;have f6:=zd0;have f7:=zhR;have k27:=zhx;have k25:=zhM;have e27:=zhJ;have i25:=zc2;have n8:=zfQ ⟨w.heap.size,0,none⟩ t ((w.alloc (.cells #[.pointer (some t)] 82)).alloc (.cells #[.pointer (some ⟨6,82,none⟩),.pointer (some ⟨w.heap.size,0,none⟩),.int .u64 150] 175)) (by simp);have hlt:1<w.heap.size:=World.block_lt_of_cell? w _ hg;have hg2:((w.alloc (.cells #[.pointer (some t)] 82)).alloc (.cells #[.pointer (some ⟨6,82,none⟩),.pointer (some ⟨w.heap.size,0,none⟩),.int .u64 150] 175)).cell? ⟨1,0,none⟩=some (.iface 239 (.agg #[.pointer (some ⟨6,39,none⟩)])):=by rw[World.cell?_alloc_lt _ _ ⟨1,0,none⟩ (by show 1<_;rw[World.size_alloc];exact Nat.lt_succ_of_lt hlt),World.cell?_alloc_lt _ _ ⟨1,0,none⟩ hlt];exact hg
 have htl:t.block<w.heap.size:=by
  rcases Nat.lt_or_ge t.block w.heap.size with h | h
  ·exact h
  ·simp[World.cell?,Array.getElem?_eq_none h]at ht0
 have tF:=ze9;have nF:=zje;have kF:=zhz;have uF:=zmt;have el:=zlE ⟨w.heap.size,0,none⟩ t ((((w.alloc (.cells #[.pointer (some t)] 82)).alloc (.cells #[.pointer (some ⟨6,82,none⟩),.pointer (some ⟨w.heap.size,0,none⟩),.int .u64 150] 175)).alloc (.cells #[.pointer (some ⟨6,82,none⟩),.pointer (some ⟨w.heap.size,0,none⟩),.int .u64 150] 175)).alloc (.cells #[.iface 80 (.int .i64 n)] 51)) (by rw[World.cell?_alloc_lt _ _ ⟨w.heap.size,0,none⟩ (by simp;omega),World.cell?_alloc_lt _ _ ⟨w.heap.size,0,none⟩ (by simp;omega)];simp);have lv:((((w.alloc (.cells #[.pointer (some t)] 82)).alloc (.cells #[.pointer (some ⟨6,82,none⟩),.pointer (some ⟨w.heap.size,0,none⟩),.int .u64 150] 175)).alloc (.cells #[.pointer (some ⟨6,82,none⟩),.pointer (some ⟨w.heap.size,0,none⟩),.int .u64 150] 175)).alloc (.cells #[.iface 80 (.int .i64 n)] 51)).cell? ⟨w.heap.size+1+1,0,none⟩=some (.pointer (some ⟨6,82,none⟩))/\((((w.alloc (.cells #[.pointer (some t)] 82)).alloc (.cells #[.pointer (some ⟨6,82,none⟩),.pointer (some ⟨w.heap.size,0,none⟩),.int .u64 150] 175)).alloc (.cells #[.pointer (some ⟨6,82,none⟩),.pointer (some ⟨w.heap.size,0,none⟩),.int .u64 150] 175)).alloc (.cells #[.iface 80 (.int .i64 n)] 51)).cell? ⟨w.heap.size+1+1,1,none⟩=some (.pointer (some ⟨w.heap.size,0,none⟩))/\((((w.alloc (.cells #[.pointer (some t)] 82)).alloc (.cells #[.pointer (some ⟨6,82,none⟩),.pointer (some ⟨w.heap.size,0,none⟩),.int .u64 150] 175)).alloc (.cells #[.pointer (some ⟨6,82,none⟩),.pointer (some ⟨w.heap.size,0,none⟩),.int .u64 150] 175)).alloc (.cells #[.iface 80 (.int .i64 n)] 51)).cell? ⟨w.heap.size+1+1,2,none⟩=some (.int .u64 150):=by refine⟨?_,?_,?_⟩ <;> (rw[World.cell?_alloc_lt _ _ _ (by simp),World.cell?_alloc_at _ _ _ _ (by simp)];rfl)
 obtain⟨l0,l1,l2⟩:=lv
 have st:=zn2 t ⟨w.heap.size+1+1+1+1,0,none⟩ n old (((((w.alloc (.cells #[.pointer (some t)] 82)).alloc (.cells #[.pointer (some ⟨6,82,none⟩),.pointer (some ⟨w.heap.size,0,none⟩),.int .u64 150] 175)).alloc (.cells #[.pointer (some ⟨6,82,none⟩),.pointer (some ⟨w.heap.size,0,none⟩),.int .u64 150] 175)).alloc (.cells #[.iface 80 (.int .i64 n)] 51)).alloc (.cells #[.int .i64 n] 80))
  (by rw[World.cell?_alloc_at _ _ _ _ (by simp)];rfl)
  (by rw[World.cell?_alloc_lt _ _ t (by simp;omega),World.cell?_alloc_lt _ _ t (by simp;omega),World.cell?_alloc_lt _ _ t (by simp;omega),World.cell?_alloc_lt _ _ t (by simp;omega),World.cell?_alloc_lt _ _ t htl];exact ht0)
  (by rw[World.frozen?_alloc_old _ _ t (by simp;omega),World.frozen?_alloc_old _ _ t (by simp;omega),World.frozen?_alloc_old _ _ t (by simp;omega),World.frozen?_alloc_old _ _ t (by simp;omega),World.frozen?_alloc_old _ _ t (Nat.ne_of_lt htl)];exact hf0)
 go_enter Tryz.func37,Tryz.ntmps37;go_wp2;refine wp_loop_rounds 2 ?_;rw[rounds_succ];go_wp2;rw[rounds_succ];go_wp2;go_ret;exact⟨rfl,rfl⟩
theorem zlM(v:Value)(t:Addr)(old:Value)(w:World)(hg:w.cell? ⟨1,0,none⟩=some (.iface 239 (.agg #[.pointer (some ⟨6,39,none⟩)])))(ht0:w.cell? t=some old):Calls Tryz.prog 37 #[.iface 51 (.agg #[.iface 337 v]),.iface 82 (.pointer (some t))] w fun ev w'=>ev=.returned (.bool false)/\w'=((((w.alloc (.cells #[.pointer (some t)] 82)).alloc (.cells #[.pointer (some ⟨6,82,none⟩),.pointer (some ⟨w.heap.size,0,none⟩),.int .u64 150] 175)).alloc (.cells #[.pointer (some ⟨6,82,none⟩),.pointer (some ⟨w.heap.size,0,none⟩),.int .u64 150] 175)).alloc (.cells #[.iface 337 v] 51)):=by
 have h6:=znD;have h7:=znB;have h8:=zn1;have h27:=zmg;have h37:=zmi;have h38:=zmp;have h10:=zmw;have h35:=zms;have h11:=zmk;have h12:=zmm;have tO:=zfg;have a25:=zc6;have v25:=zdV;have f6:=zd0;have f7:=zhR;have k27:=zhx;have k25:=zhM;have e27:=zhJ;have i25:=zc2;have n8:=zfQ ⟨w.heap.size,0,none⟩ t ((w.alloc (.cells #[.pointer (some t)] 82)).alloc (.cells #[.pointer (some ⟨6,82,none⟩),.pointer (some ⟨w.heap.size,0,none⟩),.int .u64 150] 175)) (by simp);have hlt:1<w.heap.size:=World.block_lt_of_cell? w _ hg;have hg2:((w.alloc (.cells #[.pointer (some t)] 82)).alloc (.cells #[.pointer (some ⟨6,82,none⟩),.pointer (some ⟨w.heap.size,0,none⟩),.int .u64 150] 175)).cell? ⟨1,0,none⟩=some (.iface 239 (.agg #[.pointer (some ⟨6,39,none⟩)])):=by rw[World.cell?_alloc_lt _ _ ⟨1,0,none⟩ (by show 1<_;rw[World.size_alloc];exact Nat.lt_succ_of_lt hlt),World.cell?_alloc_lt _ _ ⟨1,0,none⟩ hlt];exact hg
 have htl:t.block<w.heap.size:=by
  rcases Nat.lt_or_ge t.block w.heap.size with h | h
  ·exact h
  ·simp[World.cell?,Array.getElem?_eq_none h]at ht0
 have tF:=ze9;have nF:=zje;have kF:=zhz;have uF:=zmt;have tS:=zi3;have nS:=zmz;have kS:=zlf;have uS:=zk3;have usS:=zks;go_enter Tryz.func37,Tryz.ntmps37;go_wp2;refine wp_loop_rounds 2 ?_;rw[rounds_succ];go_wp2;rw[rounds_succ];go_wp2;go_ret;exact⟨rfl,rfl⟩
end Go.Proofs.YthlhgiihngcobaaGreatDoor
