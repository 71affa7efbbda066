/-
  PROVED HERE: what each line that asks is answered by, chapter by chapter; package run's session answers a line that asks; errors.As at a fault of package run that embeds another error, at the target that package run asks with; package run's fault tells its name.
  Conditions: none but those that each theorem's own premises say.
-/
import Derived.Test.YthlhgiihngcobaaGreatDoorMgat
import Derived.Test.YthlhgiihngcobaaGreatDoorMgau
import Derived.Test.YthlhgiihngcobaaGreatDoorMgax
import Derived.Test.YthlhgiihngcobaaGreatDoorMgba
import Derived.Test.YthlhgiihngcobaaGreatDoorMgbd
import Derived.Test.YthlhgiihngcobaaGreatDoorMgbf
import Derived.Test.YthlhgiihngcobaaGreatDoorMgbg
import Derived.Test.YthlhgiihngcobaaGreatDoorMgbq
import Derived.Test.YthlhgiihngcobaaGreatDoorMgbr
import Derived.Test.YthlhgiihngcobaaGreatDoorMgbu
import Derived.Test.YthlhgiihngcobaaGreatDoorMgbw
import Derived.Test.YthlhgiihngcobaaGreatDoorMgby
import Derived.Test.YthlhgiihngcobaaGreatDoorMgbz
import Derived.BigQuiet
import Derived.Test.YthlhgiihngcobaaGreatDoorMgaf
import Derived.Test.YthlhgiihngcobaaGreatDoorMgar
import Derived.Test.YthlhgiihngcobaaGreatDoorMgas
set_option maxHeartbeats 32000000
set_option maxRecDepth 100000
namespace Go.Proofs.YthlhgiihngcobaaGreatDoor
open Go.RowKit
def ztU(w:World)(x y:Value)(t:List UInt8):Prop:=(x=za2 t/\y=.nilIface)\/(∃s n,x=.string s/\y=.iface 80 (.int .i64 n)/\(1<=n/\n<=8)/\t=zeU n)\/(∃s a,x=.string s/\y=.iface 337 (.pointer (some a))/\w.cell? a=some (.string ⟨#[98,97,100]⟩)/\t=zAG)
def zrI(F:FuncId)(vs:Array Value)(w:World)(t:List UInt8):Prop:=Calls Tryz.prog F vs w fun e w'=>∃x y,e=.returned (.tuple #[x,y])/\ztU w' x y t/\Below w.heap.size w w'
def Two(F1:FuncId)(vs:Array Value)(F2:FuncId)(w:World)(t:List UInt8):Prop:=Calls Tryz.prog F1 vs w fun e w1=>∃v1 v2,e=.returned (.tuple #[v1,v2])/\zrI F2 #[v1,v2] w1 t/\Below w.heap.size w w1
def zqB(F1:FuncId)(vs:Array Value)(F2:FuncId)(w:World)(t:List UInt8):Prop:=Calls Tryz.prog F1 vs w fun e w1=>∃v1 v2 v3,e=.returned (.tuple #[v1,v2,v3])/\zrI F2 #[v1,v2,v3] w1 t/\Below w.heap.size w w1
theorem chkFrom_code:∀(l pre:List Op3),(chkFrom pre l).2=0\/(chkFrom pre l).2=1\/(chkFrom pre l).2=6:=by
 intro l
 induction l with
 | nil=>intro pre;exact .inl rfl
 | cons a r ih =>
   intro pre;cases h:isOpB a with
   | false=>rw[zd1 pre r h];exact .inr (.inl rfl)
   | true =>
     cases h2:zaz pre a.1 with
     | true=>rw[zec r h h2];exact .inr (.inr rfl)
     | false=>rw[zgb r h h2];exact ih _
theorem zpK(l:List Op3)(h:(chk l).2≠0):1<=(chk l).2/\(chk l).2<=8:=by
 unfold chk at h ⊢;split
 ·exact⟨by decide,by decide⟩
 ·rename_i h1;rw[if_neg h1]at h;rcases chkFrom_code l []with e | e | e
  ·exact absurd e h
  ·rw[e];exact⟨by decide,by decide⟩
  ·rw[e];exact⟨by decide,by decide⟩
theorem try_mem(ds:List Int)(p:List Int->Bool):∀(f:Nat) (b r:List Int),tryO ds p f b=some r->∀x∈r,x∈b\/x∈ds:=by
 intro f
 induction f with
 | zero =>
   intro b r h x hx;unfold tryO at h;split at h
   ·rw[<-Option.some.inj h]at hx;exact .inl hx
   ·cases h
 | succ f ih =>
   intro b r h x hx;unfold tryO at h;obtain⟨t,htd,ht⟩:=List.exists_of_findSome?_eq_some h;split at ht
   ·cases ht
   ·rcases ih _ _ ht x hx with h1 | h1
    ·rcases List.mem_append.1 h1 with h2 | h2
     ·exact .inl h2
     ·rw[List.mem_singleton.1 h2];exact .inr htd
    ·exact .inr h1
theorem zvi{h:List Op3}{o:List Int}(hs:ziR (doneL h)=some o):∀d∈o,1<=d/\d<=6:=fun d hd=>by
 rcases try_mem _ _ _ _ _ hs d hd with h1 | h1
 ·cases h1
 ·have:=zbc.1 h1;exact⟨this.1,this.2.1⟩
theorem zx2(kind:Int)(okF:Kst->Int->Dl->Bool)(byN:Bool){h:List Op3}(hc:(chk h).2=0):∀x∈(outU kind okF byN h).1.1,1<=x/\x<=6:=fun x hx=>by
 rw[zkC hc]at hx;have hd:∀y∈(runK kind okF h h.length).done,1<=y/\y<=6:=fun y hy=>by have:=(zhS kind okF hc h.length (Nat.le_refl _)).comm y hy;exact⟨this.2.1,this.2.2.1⟩
 have hx':x∈zom byN (runK kind okF h h.length).done:=hx;unfold zom at hx';split at hx'
 ·unfold zjP at hx';have:=(List.mem_filter.1 hx').1;simp at this;omega
 ·exact hd x hx'
theorem zyA{o:List Int}{v:Value}{w:World}(h:zaf w v o)(hl:o.length<=1000)(hx:∀d∈o,0<=d/\d<10000000)(hp:zen w):zrI 21 #[v,.nilIface] w (zg0 (o.map Lib.itoa)) :=(zgp zs3 zz6 o v .nilIface w h hl hx hp).mono fun _ _ ⟨he,hb⟩=>⟨_,_,he,.inl ⟨rfl,rfl⟩,hb⟩
theorem zsB{o:List Int}{v:Value}{w:World}(h:zaf w v o)(hl:o.length<=6)(hx:∀d∈o,1<=d/\d<=6)(hp:zen w):zrI 21 #[v,.nilIface] w (zr4 o):=by rw[zmi hx];exact zyA h (by omega) (fun d hd=>by have:=hx d hd;omega) hp
theorem zsp(n:Int)(w:World)(hn:1<=n/\n<=8)(hp:zen w):zrI 21 #[.slice none 0 0,.iface 80 (.int .i64 n)] w (zeU n) :=(zgp zs3 zz6 [] (.slice none 0 0) (.iface 80 (.int .i64 n)) w (za5 w) (by simp) (fun d hd=>by cases hd) hp).mono fun _ _ ⟨he,hb⟩=>⟨_,_,he,.inr (.inl ⟨_,n,rfl,rfl,hn,rfl⟩),hb⟩
theorem zuQ{h:List Op3}{v:Value}{w:World}(hv:zai w v h)(hc:(chk h).2=0)(hp:zen w):Two 22 #[v] 21 w (zjF (zcF (doneL h)) 8):=by
 refine(zzj h v w hv hc).mono ?_;rintro e w1 ⟨(⟨o,v',hs,rfl,hI⟩ | ⟨hs,rfl⟩),hb⟩
 ·have h1:=(zhM (zlk hc) hs).1;exact⟨_,_,rfl,by rw[hs];exact zsB hI (ziq h1) (fun d hd=>zrz h1 hd) (zbY hp hb),hb⟩
 ·exact⟨_,_,rfl,by rw[hs];exact zsp 8 w1 (by decide) (zbY hp hb),hb⟩
theorem zv3{h:List Op3}{v:Value}{w:World}(hv:zai w v h)(hc:(chk h).2=0)(hp:zen w):Two 23 #[v] 21 w (zjF (ziR (doneL h)) 5):=by
 refine(zqH h v w hv hc).mono ?_;rintro e w1 ⟨(⟨o,v',hs,rfl,hI⟩ | ⟨hs,rfl⟩),hb⟩
 ·exact⟨_,_,rfl,by rw[hs];exact zsB hI (zoM hs) (zvi hs) (zbY hp hb),hb⟩
 ·exact⟨_,_,rfl,by rw[hs];exact zsp 5 w1 (by decide) (zbY hp hb),hb⟩
theorem zs5{h:List Op3}{ad:Option Addr}{cap:Nat}{w:World}(hv:zai w (.slice ad h.length cap) h)(hcap:h.length<=cap)(hc:(chk h).2=0):Two 25 #[.slice ad h.length cap] 24 w (zhW [(zyz,zwB h),(zyG,zxz h),(zyE,zw1 h),(zyQ,zyd h)]):=by
 refine(zBz h ad cap w hv hcap).mono ?_;rintro e w1 ⟨rfl,hb⟩;refine⟨_,_,rfl,?_,hb⟩;rw[hc];refine(zmb zs3 (zi3 h) .nilIface w1).mono ?_;rintro e w2 ⟨rfl,hb2⟩;refine⟨_,_,rfl,.inl ⟨?_,rfl⟩,hb2⟩;have e1:zi3 h=(zwB h,zxz h,zw1 h,zyd h):=by unfold zi3;rw[if_neg (by simpa using hc)]
 rw[e1,ziX (by simp[zyz,zyG,zyE,zyQ])];rfl
theorem zwc{h:List Op3}{ad:Option Addr}{cap:Nat}{w:World}(hv:zai w (.slice ad h.length cap) h)(hcap:h.length<=cap)(hc:(chk h).2=0):Two 27 #[.slice ad h.length cap] 26 w (zhW [(dwW,(zin h).1.1),(drW,(zin h).1.2.1),(unW,(zin h).1.2.2.1),(loW,(zin h).1.2.2.2)]):=by
 refine(zz5 h ad cap w hv hcap).mono ?_;rintro e w1 ⟨rfl,hb⟩;refine⟨_,_,rfl,?_,hb⟩;rw[hc];refine(znc zs3 (zly h) .nilIface w1).mono ?_;rintro e w2 ⟨rfl,hb2⟩;refine⟨_,_,rfl,.inl ⟨?_,rfl⟩,hb2⟩;have e1:zly h=(zin h).1:=by unfold zly;rw[if_neg (by simpa using hc)]
 rw[e1,ziX (by simp[dwW,drW,unW,loW])];rfl
theorem zqQ{h:List Op3}{v:Value}{w:World}(hv:zai w v h)(hc:(chk h).2=0)(hp:zen w):Two 28 #[v] 21 w (zra (valsL (doneL h))):=by
 refine(zs9 h v w hv hc).mono ?_;rintro e w1 ⟨v',rfl,hI,hb⟩;have hx:∀d∈valsL (doneL h),0<=d/\d<10000000:=fun d hd=>by obtain⟨j,_,rfl⟩:=List.mem_map.1 hd;have:=zdt (doneL h) (doneL h).length ((j:Int)+1);omega
 refine⟨_,_,rfl,?_,hb⟩;rw[zt3 (by unfold valsL;simp) fun d hd=>(hx d hd).1];exact zyA hI (by unfold valsL;simp) hx (zbY hp hb)
theorem zo9{l:List Op3}{v v2:Value}{w:World}(h:zai w v l):zrI 29 #[v,v2,.nilIface] w (zgY l):=by
 refine(zBl l v v2 w h).mono ?_;rintro e w1 ⟨rfl,hb⟩;refine⟨_,_,rfl,?_,hb⟩;unfold zgY;by_cases hc:(chk l).2=0
 ·have hn:¬(chk l).2≠0:=fun h=>h hc;rw[if_pos hc,if_neg hn,hc];exact .inl ⟨rfl,rfl⟩
 ·rw[if_neg hc,if_pos hc,zir hc];exact .inr (.inl ⟨_,_,rfl,rfl,zpK l hc,rfl⟩)
theorem zel{h:List Op3}{v:Value}{w:World}(way:Int)(hw:0<=way/\way<=2)(hv:zai w v h)(hc:(chk h).2=0):zqB 30 #[v,.int .i64 way] 29 w (zgY (zbd h way).1.1):=by
 refine(zzm h v way w hv).mono ?_;rintro e w1 ⟨v1,v2,rfl,hI,-,hb⟩;have e0:(zbd h way).2=0:=by unfold zbd;rw[if_neg (by simpa using hc),if_neg (by omega)]
 exact⟨_,_,_,rfl,by rw[e0];exact zo9 hI,hb⟩
theorem zoy{h:List Op3}{v:Value}{w:World}(hv:zai w v h)(hc:(chk h).2=0):zqB 31 #[v,.bool false] 29 w (zgY (zdc false h).1.1):=by refine(zBF h v false w hv).mono ?_;rintro e w1 ⟨v1,v2,rfl,hI,-,hb⟩;exact⟨_,_,_,rfl,by rw[show(zdc false h).2=0 by rw[zib hc]];exact zo9 hI,hb⟩
theorem zhl{F:FuncId}{kind:Int}{okF:Kst->Int->Dl->Bool}{byN:Bool}(hR:znm F kind okF byN){h:List Op3}{v:Value}{w:World}(hv:zai w v h)(hc:(chk h).2=0)(hp:zen w):Two F #[v] 32 w (zr4 (outU kind okF byN h).1.1):=by refine(hR h v w hv).mono ?_;rintro e w1 ⟨a1,a2,a3,rfl,hI,-,-,-,hb⟩;have hx:=zx2 kind okF byN hc;refine⟨_,_,rfl,?_,hb⟩;rw[show(outU kind okF byN h).2=0 by rw[zkC hc],zmi hx];exact(zwh zs3 zz6 _ a1 a2 a3 .nilIface w1 hI (by have:=(zoW kind okF byN h).1;omega) (fun d hd=>by have:=hx d hd;omega) (zbY hp hb)).mono fun _ _ ⟨he,hb⟩=>⟨_,_,he,.inl ⟨rfl,rfl⟩,hb⟩
end Go.Proofs.YthlhgiihngcobaaGreatDoor
namespace Go.Proofs.YthlhgiihngcobaaGreatDoor
open Go.RowKit
theorem ztT(l:List UInt8)(w:World):Calls Tryz.prog 19 #[za2 l,.string ⟨#[104,105,115,116,111,114,121,32]⟩] w fun e w'=>e=.returned (.tuple #[za2 (if l.take 8=zfk then l.drop 8 else l),.bool (decide (l.take 8=zfk))])/\w'=w:=by
 have e1:Lib.hasPrefix l zfk=decide (l.take 8=zfk):=by unfold Lib.hasPrefix;rw[Bool.eq_iff_iff,List.isPrefixOf_iff_prefix,decide_eq_true_iff,List.prefix_iff_eq_take];exact⟨fun h=>h.symm,fun h=>h.symm⟩
 have e2:Lib.trimPrefix l zfk=if l.take 8=zfk then l.drop 8 else l:=by
  unfold Lib.trimPrefix;rw[e1];by_cases h:l.take 8=zfk
  ·rw[decide_eq_true h,if_pos h];rfl
  ·rw[decide_eq_false h,if_neg h];rfl
 have h:=Any.strings_CutPrefix Tryz.lays103 ⟨l.toArray⟩ ⟨#[104,105,115,116,111,114,121,32]⟩ w;refine h.mono ?_;rintro e w' ⟨rfl,hw⟩;refine⟨?_,hw⟩;show Ending.returned (.tuple #[za2 (Lib.trimPrefix l zfk),.bool (Lib.hasPrefix l zfk)])=_;rw[e1,e2]
theorem zlD(l:List UInt8)(w:World)(h:l.take 8≠zfk):Calls Tryz.prog 19 #[za2 l,.string ⟨#[104,105,115,116,111,114,121,32]⟩] w fun e w'=>e=.returned (.tuple #[za2 l,.bool false])/\w'=w:=by refine(ztT l w).mono ?_;rintro e w' ⟨rfl,hw⟩;exact⟨by rw[if_neg h,decide_eq_false h],hw⟩
def zsz(w w0:World)(t:List UInt8)(e:Ending):Prop:=∃x y,e=.returned (.tuple #[x,y])/\ztU w x y t/\Below w0.heap.size w0 w
def DoC(sb:Nat)(w:World)(t l:List UInt8):Prop:=Calls Tryz.prog 15 #[.pointer (some ⟨sb,0,none⟩),za2 l] w fun e w'=>zsz w' w t e
theorem zcb{sb:Nat}{v:Value}{w:World}{t:List UInt8}(hv:w.cell? ⟨sb,0,none⟩=some v):(Two 22 #[v] 21 w t->DoC sb w t [111,114,100,101,114]) /\
  (Two 23 #[v] 21 w t->DoC sb w t [118,105,101,119]) /\
  (Two 25 #[v] 24 w t->DoC sb w t [102,97,99,101,115]) /\
  (Two 27 #[v] 26 w t->DoC sb w t [105,108,108,115]) /\
  (Two 28 #[v] 21 w t->DoC sb w t [118,97,108,117,101,115]) /\
  (zqB 30 #[v,.int .i64 0] 29 w t->DoC sb w t [100,101,116,101,99,116]) /\
  (zqB 30 #[v,.int .i64 1] 29 w t->DoC sb w t [119,97,105,116,100,105,101]) /\
  (zqB 30 #[v,.int .i64 2] 29 w t->DoC sb w t [119,111,117,110,100,119,97,105,116]) /\
  (zqB 31 #[v,.bool false] 29 w t->DoC sb w t [115,116,97,109,112]) /\
  (Two 33 #[v] 32 w t->DoC sb w t [118,97,108,105,100]) /\
  (Two 34 #[v] 32 w t->DoC sb w t [115,110,97,112]) /\
  (Two 35 #[v] 32 w t->DoC sb w t [100,97,110,103,101,114]) /\
  (Two 36 #[v] 32 w t->DoC sb w t [118,101,114,115,105,111,110,115]):=by
 have HP:Hid (∀(W:World) (x y:Value),ztU W x y t->Below w.heap.size w W->zsz W w t (.returned (.tuple #[x,y]))):=fun W x y a b=>⟨x,y,rfl,a,b⟩;refine⟨?_,?_,?_,?_,?_,?_,?_,?_,?_,?_,?_,?_,?_⟩
 all_goals
  intro h2;have H2:=zau h2;clear h2;unfold DoC;go_enter Tryz.func15,Tryz.ntmps15;go_wp2_with (first | (go_at_call 19;refine(zlD _ _ (by decide)).mono ?_;rintro e w ⟨rfl,rfl⟩) | ((first | go_at_call 22 | go_at_call 23 | go_at_call 25 | go_at_call 27 | go_at_call 28 | go_at_call 33 | go_at_call 34 | go_at_call 35 | go_at_call 36);refine H2.out.mono ?_;rintro e w1 ⟨v1,v2,rfl,hT,hb1⟩) | ((first | go_at_call 30 | go_at_call 31);refine H2.out.mono ?_;rintro e w1 ⟨v1,v2,v3,rfl,hT,hb1⟩) | ((first | go_at_call 21 | go_at_call 24 | go_at_call 26 | go_at_call 29 | go_at_call 32);refine hT.mono ?_;rintro e w2 ⟨x,y,rfl,hE,hb2⟩;have HE:=zau hE;have HB2:Hid (Below w.heap.size w w2):=hb1.trans (hb2.mono hb1.size);clear hE hb2));go_ret2;exact HP.out _ _ _ HE.out HB2.out
end Go.Proofs.YthlhgiihngcobaaGreatDoor
namespace Go.Proofs.YthlhgiihngcobaaGreatDoor
open Go.RowKit Go.Extern.Stop Go.Stop Go.Extern
theorem zjl(v:Value)(w:World):(ReflectliteType.typeOf #[.iface 51 v]).run Tryz.prog w=.ok (.iface 239 (.agg #[.pointer (some ⟨6,51,none⟩)])) w:=by kernel_rfl
theorem zsH(w:World):(ReflectliteType.relation "AssignableTo" ReflectliteType.assignableTo #[.agg #[.pointer (some ⟨6,51,none⟩)],.iface 239 (.agg #[.pointer (some ⟨6,80,none⟩)])]).run Tryz.prog w=.ok (.bool false) w:=by kernel_rfl
theorem zr0(v:Value)(w:World):(ReflectliteType.typeOf #[.iface 337 v]).run Tryz.prog w=.ok (.iface 239 (.agg #[.pointer (some ⟨6,337,none⟩)])) w:=by kernel_rfl
theorem zzw(w:World):(ReflectliteType.relation "AssignableTo" ReflectliteType.assignableTo #[.agg #[.pointer (some ⟨6,337,none⟩)],.iface 239 (.agg #[.pointer (some ⟨6,80,none⟩)])]).run Tryz.prog w=.ok (.bool false) w:=by kernel_rfl
theorem zoO(v:Value)(x:TypeId)(w:World):(Instr.typeAssert (.iface 51 v) x 244 true).run Tryz.prog w=.ok (.tuple #[.nilIface,.bool false]) w :=run_typeAssert_lacksB Tryz.underlying244 (by kernel_rfl) (by kernel_rfl) v x w
theorem zyK(v:Value)(x:TypeId)(w:World):(Instr.typeAssert (.iface 51 v) x 247 true).run Tryz.prog w=.ok (.tuple #[.iface 51 v,.bool true]) w :=run_typeAssert_hasB Tryz.underlying247 (by kernel_rfl) v x w
theorem zxm(v:Value)(x:TypeId)(w:World):(Instr.typeAssert (.iface 337 v) x 244 true).run Tryz.prog w=.ok (.tuple #[.nilIface,.bool false]) w :=run_typeAssert_lacksB Tryz.underlying244 (by kernel_rfl) (by kernel_rfl) v x w
theorem zwx(v:Value)(x:TypeId)(w:World):(Instr.typeAssert (.iface 337 v) x 247 true).run Tryz.prog w=.ok (.tuple #[.nilIface,.bool false]) w :=run_typeAssert_lacksB Tryz.underlying247 (by kernel_rfl) (by kernel_rfl) v x w
theorem ztO(v:Value)(x:TypeId)(w:World):(Instr.typeAssert (.iface 337 v) x 249 true).run Tryz.prog w=.ok (.tuple #[.nilIface,.bool false]) w :=run_typeAssert_lacksB Tryz.underlying249 (by kernel_rfl) (by kernel_rfl) v x w
set_option linter.defProp false
def zBd:=@run_callFunc_extern Tryz.prog 98 _ (fun args=>ReflectliteValue.unpack (args.getD 0 (.tuple #[]))) Tryz.func98 (by kernel_rfl) (by kernel_rfl) (by kernel_rfl) (by kernel_rfl)
def zBe:=@run_callFunc_extern Tryz.prog 99 _ (ReflectliteValue.methodAny (ReflectliteValue.valueError "reflectlite.Value.Type" 0) (fun t _ _ _=>ReflectliteType.toType t)) Tryz.func99 (by kernel_rfl) (by kernel_rfl) (by kernel_rfl) (by kernel_rfl)
def zAR:=@run_callFunc_extern Tryz.prog 100 _ (ReflectliteValue.method (ReflectliteValue.valueError "reflectlite.Value.IsNil" 0) ReflectliteValue.isNil) Tryz.func100 (by kernel_rfl) (by kernel_rfl) (by kernel_rfl) (by kernel_rfl)
def zyw:=@run_callFunc_extern Tryz.prog 296 _ (ReflectliteType.abiMethod fun t=>do pure (.int .u8 (<-Rtype.kind t))) Tryz.func296 (by kernel_rfl) (by kernel_rfl) (by kernel_rfl) (by kernel_rfl)
def zyL:=@run_callFunc_extern Tryz.prog 308 _ (ReflectliteType.method ReflectliteType.elem) Tryz.func308 (by kernel_rfl) (by kernel_rfl) (by kernel_rfl) (by kernel_rfl)
def zyM:=@run_callFunc_extern Tryz.prog 309 _ (ReflectliteType.relation "Implements" ReflectliteType.implements_) Tryz.func309 (by kernel_rfl) (by kernel_rfl) (by kernel_rfl) (by kernel_rfl)
def zyH:=@run_callFunc_extern Tryz.prog 170 _ ReflectliteType.typeOf Tryz.func170 (by kernel_rfl) (by kernel_rfl) (by kernel_rfl) (by kernel_rfl)
def zyF:=@run_callFunc_extern Tryz.prog 306 _ (ReflectliteType.relation "AssignableTo" ReflectliteType.assignableTo) Tryz.func306 (by kernel_rfl) (by kernel_rfl) (by kernel_rfl) (by kernel_rfl)
def zyB:=@run_callFunc_extern Tryz.prog 171 _ (ReflectliteValue.method (ReflectliteValue.valueError "reflectlite.Value.Elem" 0) ReflectliteValue.elem) Tryz.func171 (by kernel_rfl) (by kernel_rfl) (by kernel_rfl) (by kernel_rfl)
def zyu:=@run_callFunc_extern Tryz.prog 172 _ ReflectliteValue.set Tryz.func172 (by kernel_rfl) (by kernel_rfl) (by kernel_rfl) (by kernel_rfl)
theorem zzJ(n:Int)(t:Addr)(old:Value)(w:World)(hg:w.cell? ⟨1,0,none⟩=some (.iface 239 (.agg #[.pointer (some ⟨6,39,none⟩)])))(ht0:w.cell? t=some old)(hf0:w.frozen? t=false):Calls Tryz.prog 37 #[.iface 51 (.agg #[.iface 80 (.int .i64 n)]),.iface 82 (.pointer (some t))] w fun ev w'=>ev=.returned (.bool true)/\w'=(((((w.alloc (.cells #[.pointer (some t)] 82)).alloc (.cells #[.pointer (some ⟨6,82,none⟩),.pointer (some ⟨w.heap.size,0,none⟩),.int .u64 150] 175)).alloc (.cells #[.pointer (some ⟨6,82,none⟩),.pointer (some ⟨w.heap.size,0,none⟩),.int .u64 150] 175)).alloc (.cells #[.iface 80 (.int .i64 n)] 51)).alloc (.cells #[.int .i64 n] 80)).setCell t (.int .i64 n):=by
 have h6:=zBd;have h7:=zBe;have h8:=zAR;have h27:=zyw;have h37:=zyL;have h38:=zyM;have h10:=zyH;have h35:=zyF;have h11:=zyB;have h12:=zyu;have tO:=zji;have a25:=zfM;have v25:=zh5;have f6:=ziE;have f7:=zoQ;have k27:=zpD;have k25:=zoJ;have e27:=zoE;have i25:=zfx;have n8:=zml ⟨w.heap.size,0,none⟩ t ((w.alloc (.cells #[.pointer (some t)] 82)).alloc (.cells #[.pointer (some ⟨6,82,none⟩),.pointer (some ⟨w.heap.size,0,none⟩),.int .u64 150] 175)) (by simp);have hlt:1<w.heap.size:=World.block_lt_of_cell? w _ hg;have hg2:((w.alloc (.cells #[.pointer (some t)] 82)).alloc (.cells #[.pointer (some ⟨6,82,none⟩),.pointer (some ⟨w.heap.size,0,none⟩),.int .u64 150] 175)).cell? ⟨1,0,none⟩=some (.iface 239 (.agg #[.pointer (some ⟨6,39,none⟩)])):=by rw[World.cell?_alloc_lt _ _ ⟨1,0,none⟩ (by show 1<_;rw[World.size_alloc];exact Nat.lt_succ_of_lt hlt),World.cell?_alloc_lt _ _ ⟨1,0,none⟩ hlt];exact hg
 have htl:t.block<w.heap.size:=by
  rcases Nat.lt_or_ge t.block w.heap.size with h | h
  ·exact h
  ·simp[World.cell?,Array.getElem?_eq_none h]at ht0
 have tF:=zjl;have nF:=zsH;have kF:=zoO;have uF:=zyK;have el:=zyg ⟨w.heap.size,0,none⟩ t ((((w.alloc (.cells #[.pointer (some t)] 82)).alloc (.cells #[.pointer (some ⟨6,82,none⟩),.pointer (some ⟨w.heap.size,0,none⟩),.int .u64 150] 175)).alloc (.cells #[.pointer (some ⟨6,82,none⟩),.pointer (some ⟨w.heap.size,0,none⟩),.int .u64 150] 175)).alloc (.cells #[.iface 80 (.int .i64 n)] 51)) (by rw[World.cell?_alloc_lt _ _ ⟨w.heap.size,0,none⟩ (by simp;omega),World.cell?_alloc_lt _ _ ⟨w.heap.size,0,none⟩ (by simp;omega)];simp);have lv:((((w.alloc (.cells #[.pointer (some t)] 82)).alloc (.cells #[.pointer (some ⟨6,82,none⟩),.pointer (some ⟨w.heap.size,0,none⟩),.int .u64 150] 175)).alloc (.cells #[.pointer (some ⟨6,82,none⟩),.pointer (some ⟨w.heap.size,0,none⟩),.int .u64 150] 175)).alloc (.cells #[.iface 80 (.int .i64 n)] 51)).cell? ⟨w.heap.size+1+1,0,none⟩=some (.pointer (some ⟨6,82,none⟩))/\((((w.alloc (.cells #[.pointer (some t)] 82)).alloc (.cells #[.pointer (some ⟨6,82,none⟩),.pointer (some ⟨w.heap.size,0,none⟩),.int .u64 150] 175)).alloc (.cells #[.pointer (some ⟨6,82,none⟩),.pointer (some ⟨w.heap.size,0,none⟩),.int .u64 150] 175)).alloc (.cells #[.iface 80 (.int .i64 n)] 51)).cell? ⟨w.heap.size+1+1,1,none⟩=some (.pointer (some ⟨w.heap.size,0,none⟩))/\((((w.alloc (.cells #[.pointer (some t)] 82)).alloc (.cells #[.pointer (some ⟨6,82,none⟩),.pointer (some ⟨w.heap.size,0,none⟩),.int .u64 150] 175)).alloc (.cells #[.pointer (some ⟨6,82,none⟩),.pointer (some ⟨w.heap.size,0,none⟩),.int .u64 150] 175)).alloc (.cells #[.iface 80 (.int .i64 n)] 51)).cell? ⟨w.heap.size+1+1,2,none⟩=some (.int .u64 150):=by refine⟨?_,?_,?_⟩ <;> (rw[World.cell?_alloc_lt _ _ _ (by simp),World.cell?_alloc_at _ _ _ _ (by simp)];rfl)
 obtain⟨l0,l1,l2⟩:=lv
 have st:=zBg t ⟨w.heap.size+1+1+1+1,0,none⟩ n old (((((w.alloc (.cells #[.pointer (some t)] 82)).alloc (.cells #[.pointer (some ⟨6,82,none⟩),.pointer (some ⟨w.heap.size,0,none⟩),.int .u64 150] 175)).alloc (.cells #[.pointer (some ⟨6,82,none⟩),.pointer (some ⟨w.heap.size,0,none⟩),.int .u64 150] 175)).alloc (.cells #[.iface 80 (.int .i64 n)] 51)).alloc (.cells #[.int .i64 n] 80))
  (by rw[World.cell?_alloc_at _ _ _ _ (by simp)];rfl)
  (by rw[World.cell?_alloc_lt _ _ t (by simp;omega),World.cell?_alloc_lt _ _ t (by simp;omega),World.cell?_alloc_lt _ _ t (by simp;omega),World.cell?_alloc_lt _ _ t (by simp;omega),World.cell?_alloc_lt _ _ t htl];exact ht0)
  (by rw[World.frozen?_alloc_old _ _ t (by simp;omega),World.frozen?_alloc_old _ _ t (by simp;omega),World.frozen?_alloc_old _ _ t (by simp;omega),World.frozen?_alloc_old _ _ t (by simp;omega),World.frozen?_alloc_old _ _ t (Nat.ne_of_lt htl)];exact hf0)
 go_enter Tryz.func37,Tryz.ntmps37;go_wp2;refine wp_loop_rounds 2 ?_;rw[rounds_succ];go_wp2;rw[rounds_succ];go_wp2;go_ret;exact⟨rfl,rfl⟩
theorem zxd(v:Value)(t:Addr)(old:Value)(w:World)(hg:w.cell? ⟨1,0,none⟩=some (.iface 239 (.agg #[.pointer (some ⟨6,39,none⟩)])))(ht0:w.cell? t=some old):Calls Tryz.prog 37 #[.iface 51 (.agg #[.iface 337 v]),.iface 82 (.pointer (some t))] w fun ev w'=>ev=.returned (.bool false)/\w'=((((w.alloc (.cells #[.pointer (some t)] 82)).alloc (.cells #[.pointer (some ⟨6,82,none⟩),.pointer (some ⟨w.heap.size,0,none⟩),.int .u64 150] 175)).alloc (.cells #[.pointer (some ⟨6,82,none⟩),.pointer (some ⟨w.heap.size,0,none⟩),.int .u64 150] 175)).alloc (.cells #[.iface 337 v] 51)):=by
 have h6:=zBd;have h7:=zBe;have h8:=zAR;have h27:=zyw;have h37:=zyL;have h38:=zyM;have h10:=zyH;have h35:=zyF;have h11:=zyB;have h12:=zyu;have tO:=zji;have a25:=zfM;have v25:=zh5;have f6:=ziE;have f7:=zoQ;have k27:=zpD;have k25:=zoJ;have e27:=zoE;have i25:=zfx;have n8:=zml ⟨w.heap.size,0,none⟩ t ((w.alloc (.cells #[.pointer (some t)] 82)).alloc (.cells #[.pointer (some ⟨6,82,none⟩),.pointer (some ⟨w.heap.size,0,none⟩),.int .u64 150] 175)) (by simp);have hlt:1<w.heap.size:=World.block_lt_of_cell? w _ hg;have hg2:((w.alloc (.cells #[.pointer (some t)] 82)).alloc (.cells #[.pointer (some ⟨6,82,none⟩),.pointer (some ⟨w.heap.size,0,none⟩),.int .u64 150] 175)).cell? ⟨1,0,none⟩=some (.iface 239 (.agg #[.pointer (some ⟨6,39,none⟩)])):=by rw[World.cell?_alloc_lt _ _ ⟨1,0,none⟩ (by show 1<_;rw[World.size_alloc];exact Nat.lt_succ_of_lt hlt),World.cell?_alloc_lt _ _ ⟨1,0,none⟩ hlt];exact hg
 have htl:t.block<w.heap.size:=by
  rcases Nat.lt_or_ge t.block w.heap.size with h | h
  ·exact h
  ·simp[World.cell?,Array.getElem?_eq_none h]at ht0
 have tF:=zjl;have nF:=zsH;have kF:=zoO;have uF:=zyK;have tS:=zr0;have nS:=zzw;have kS:=zxm;have uS:=zwx;have usS:=ztO;go_enter Tryz.func37,Tryz.ntmps37;go_wp2;refine wp_loop_rounds 2 ?_;rw[rounds_succ];go_wp2;rw[rounds_succ];go_wp2;go_ret;exact⟨rfl,rfl⟩
end Go.Proofs.YthlhgiihngcobaaGreatDoor
namespace Go.Proofs.YthlhgiihngcobaaGreatDoor
open Go.RowKit
theorem zxZ(n:Int)(w:World)(h1:1<=n)(h8:n<=8):Calls Tryz.prog 38 #[.int .i64 n] w fun e w'=>e=.returned (za2 (zeU n))/\w'=w:=by
 rcases(show n=1\/n=2\/n=3\/n=4\/n=5\/n=6\/n=7\/n=8 by omega)with rfl | rfl | rfl | rfl | rfl | rfl | rfl | rfl
 all_goals
  go_enter Tryz.func38,Tryz.ntmps38;go_wp2_with fail;go_ret;exact⟨rfl,rfl⟩
theorem zqn(n:Int)(w:World)(h1:1<=n)(h8:n<=8)(hg:EtAt w):Calls Tryz.prog 16 #[.agg #[.iface 80 (.int .i64 n)]] w fun e w'=>e=.returned (za2 (zeU n))/\Below w.heap.size w w':=by
 obtain⟨W,hW⟩:∃W,W=(w.alloc (.cells #[.iface 80 (.int .i64 n)] 51)).alloc (.cells #[.int .i64 0] 80):=⟨_,rfl⟩;have hgA:W.cell? ⟨1,0,none⟩=some (.iface 239 (.agg #[.pointer (some ⟨6,39,none⟩)])):=by rw[hW];exact(hg.alloc _).alloc _
 have htA:W.cell? ⟨w.heap.size+1,0,none⟩=some (.int .i64 0):=by rw[hW,World.cell?_alloc_at _ _ _ _ (by simp)];rfl
 have hfA:W.frozen? ⟨w.heap.size+1,0,none⟩=false:=by rw[hW];simp
 have hB:Below w.heap.size w W:=by rw[hW];exact((Below.refl _ w).alloc (Nat.le_refl _) _).alloc (by simp) _
 have hz:W.heap.size=w.heap.size+2:=by rw[hW];simp
 have HA:Hid (Calls Tryz.prog 37 #[.iface 51 (.agg #[.iface 80 (.int .i64 n)]),.iface 82 (.pointer (some ⟨w.heap.size+1,0,none⟩))] W fun e w'=>e=.returned (.bool true)/\w'.cell? ⟨w.heap.size+1,0,none⟩=some (.int .i64 n)/\Below w.heap.size w w'):=by refine(zzJ n _ (.int .i64 0) W hgA htA hfA).mono ?_;rintro e w' ⟨rfl,hw⟩;obtain⟨V,hV,rfl⟩:∃V,Below W.heap.size W V/\w'=V.setCell ⟨w.heap.size+1,0,none⟩ (.int .i64 n):=⟨_,by go_grown,hw⟩;refine⟨rfl,World.cell?_setCell_same' _ _ _ ?_,(hB.trans (hV.mono hB.size)).setCell (p:=⟨w.heap.size+1,0,none⟩) (by show w.heap.size<=w.heap.size+1;omega) _⟩;rw[hV.cell (p:=⟨w.heap.size+1,0,none⟩) (by show w.heap.size+1<_;omega),htA];rfl
 have HE:=zau (fun W=>zxZ n W h1 h8);rw[hW]at HA;clear hgA htA hfA hB hz hW hg h1 h8;go_enter Tryz.func16,Tryz.ntmps16;go_wp2_with (first | (go_at_call 37;refine HA.out.mono ?_;rintro e w1 ⟨rfl,hc1,hb1⟩) | (go_at_call 38;refine(HE.out _).mono ?_;rintro e w2 ⟨rfl,rfl⟩));go_ret;exact⟨rfl,hb1⟩
theorem zqo(a:Addr)(s:ByteArray)(w:World)(ha:w.cell? a=some (.string s)):Calls Tryz.prog 316 #[.pointer (some a)] w fun e w'=>e=.returned (.string s)/\w'=w:=by go_enter Tryz.func316,Tryz.ntmps316;go_wp2_with fail;go_ret;exact⟨rfl,rfl⟩
theorem zwS(a:Addr)(w:World)(ha:w.cell? a=some (.string ⟨#[98,97,100]⟩))(hg:EtAt w):Calls Tryz.prog 16 #[.agg #[.iface 337 (.pointer (some a))]] w fun e w'=>e=.returned (za2 zAG)/\Below w.heap.size w w':=by
 have hal:=World.block_lt_of_cell? w a ha;obtain⟨W,hW⟩:∃W,W=(w.alloc (.cells #[.iface 337 (.pointer (some a))] 51)).alloc (.cells #[.int .i64 0] 80):=⟨_,rfl⟩;have hgA:W.cell? ⟨1,0,none⟩=some (.iface 239 (.agg #[.pointer (some ⟨6,39,none⟩)])):=by rw[hW];exact(hg.alloc _).alloc _
 have htA:W.cell? ⟨w.heap.size+1,0,none⟩=some (.int .i64 0):=by rw[hW,World.cell?_alloc_at _ _ _ _ (by simp)];rfl
 have hfA:W.cell? ⟨w.heap.size,0,none⟩=some (.iface 337 (.pointer (some a))):=by rw[hW,World.cell?_alloc_lt _ _ _ (by simp),World.cell?_alloc_at _ _ _ _ (by simp)];rfl
 have hB:Below w.heap.size w W:=by rw[hW];exact((Below.refl _ w).alloc (Nat.le_refl _) _).alloc (by simp) _
 have hz:W.heap.size=w.heap.size+2:=by rw[hW];simp
 have HA:Hid (Calls Tryz.prog 37 #[.iface 51 (.agg #[.iface 337 (.pointer (some a))]),.iface 82 (.pointer (some ⟨w.heap.size+1,0,none⟩))] W fun e w'=>e=.returned (.bool false)/\(w'.cell? ⟨w.heap.size,0,none⟩=some (.iface 337 (.pointer (some a)))/\w'.cell? a=some (.string ⟨#[98,97,100]⟩))/\Below w.heap.size w w'):=by
  refine(zxd _ _ (.int .i64 0) W hgA htA).mono ?_;rintro e w' ⟨rfl,hw⟩;have hV:Below W.heap.size W w':=by rw[hw];go_grown
  exact⟨rfl,⟨(hV.cell (p:=⟨w.heap.size,0,none⟩) (by show w.heap.size<_;omega)).trans hfA,(hV.cell (p:=a) (by omega)).trans ((hB.cell (p:=a) hal).trans ha)⟩,hB.trans (hV.mono hB.size)⟩
 rw[hW]at HA;clear hgA htA hfA hB hz hW hg ha hal;go_enter Tryz.func16,Tryz.ntmps16;go_wp2_with (first | (go_at_call 37;refine HA.out.mono ?_;rintro e w1 ⟨rfl,⟨hc0,hc1⟩,hb1⟩) | (go_at_call 316;refine(zqo a _ _ hc1).mono ?_;rintro e w2 ⟨rfl,rfl⟩));go_ret;exact⟨rfl,hb1⟩
end Go.Proofs.YthlhgiihngcobaaGreatDoor
