/-
  PROVED HERE: what each line that asks is answered by, chapter by chapter; package run's session answers a line that asks; errors.As at a fault of package run that embeds another error, at the target that package run asks with; package run's fault tells its name; package run's session answers a line as chapter 20 says (lineF), and keeps its history so; package run's Run answers a text as chapter 20 says, line by line (runB lineF []).
  Conditions: none but those that each theorem's own premises say.
-/
import Derived.Test.YthlhgiihngcobaaGreatDoorMgau
import Derived.Test.YthlhgiihngcobaaGreatDoorMgav
import Derived.Test.YthlhgiihngcobaaGreatDoorMgay
import Derived.Test.YthlhgiihngcobaaGreatDoorMgbb
import Derived.Test.YthlhgiihngcobaaGreatDoorMgbe
import Derived.Test.YthlhgiihngcobaaGreatDoorMgbg
import Derived.Test.YthlhgiihngcobaaGreatDoorMgbh
import Derived.Test.YthlhgiihngcobaaGreatDoorMgbr
import Derived.Test.YthlhgiihngcobaaGreatDoorMgbs
import Derived.Test.YthlhgiihngcobaaGreatDoorMgbv
import Derived.Test.YthlhgiihngcobaaGreatDoorMgbx
import Derived.Test.YthlhgiihngcobaaGreatDoorMgbz
import Derived.Test.YthlhgiihngcobaaGreatDoorMgca
import Derived.BigQuiet
import Derived.Test.YthlhgiihngcobaaGreatDoorMgaf
import Derived.Test.YthlhgiihngcobaaGreatDoorMgas
import Derived.Test.YthlhgiihngcobaaGreatDoorMgat
namespace Go.Proofs.YthlhgiihngcobaaGreatDoor
open Go.RowKit
def zeS(w:World)(x y:Value)(t:List UInt8):Prop:=(x=zaV t∧y=.nilIface)∨(∃s n,x=.string s∧y=.iface 80(.int .i64 n)∧(1≤n∧n≤8)∧t=zff n)∨(∃s a,x=.string s∧y=.iface 337(.pointer(some a))∧w.cell? a=some(.string⟨#[98,97,100]⟩)∧t=zBR)
def zsB(F:FuncId)(vs:Array Value)(w:World)(t:List UInt8):Prop:=Calls Tryz.prog F vs w fun e w'=>∃x y,e=.returned(.tuple #[x,y])∧zeS w' x y t∧Below w.heap.size w w'
def Two(F1:FuncId)(vs:Array Value)(F2:FuncId)(w:World)(t:List UInt8):Prop:=Calls Tryz.prog F1 vs w fun e w1=>∃v1 v2,e=.returned(.tuple #[v1,v2])∧zsB F2 #[v1,v2]w1 t∧Below w.heap.size w w1
def zsz(F1:FuncId)(vs:Array Value)(F2:FuncId)(w:World)(t:List UInt8):Prop:=Calls Tryz.prog F1 vs w fun e w1=>∃v1 v2 v3,e=.returned(.tuple #[v1,v2,v3])∧zsB F2 #[v1,v2,v3]w1 t∧Below w.heap.size w w1
theorem chkFrom_code:∀(l pre:List Op3),(chkFrom pre l).2=0∨(chkFrom pre l).2=1∨(chkFrom pre l).2=6:=by
 intro l
 induction l with
 | nil=>intro pre;exact .inl rfl
 | cons a r ih =>
   intro pre
   cases h:isOpB a with
   | false=>rw[zeQ pre r h];exact .inr(.inl rfl)
   | true =>
     cases h2:zaA pre a.1 with
     | true=>rw[zeR r h h2];exact .inr(.inr rfl)
     | false=>rw[zg4 r h h2];exact ih _
theorem zqm(l:List Op3)(h:(chk l).2≠0):1≤(chk l).2∧(chk l).2≤8:=by
 unfold chk at h ⊢
 split
 ·exact⟨by decide,by decide⟩
 ·rename_i h1
  rw[if_neg h1]at h
  rcases chkFrom_code l []with e|e|e
  ·exact absurd e h
  ·rw[e];exact⟨by decide,by decide⟩
  ·rw[e];exact⟨by decide,by decide⟩
theorem try_mem(ds:List Int)(p:List Int→Bool):∀(f:Nat)(b r:List Int),zga ds p f b=some r→∀x∈r,x∈b∨x∈ds:=by
 intro f
 induction f with
 | zero =>
   intro b r h x hx
   unfold zga at h
   split at h
   ·rw[←Option.some.inj h]at hx;exact .inl hx
   ·cases h
 | succ f ih =>
   intro b r h x hx
   unfold zga at h
   obtain⟨t,htd,ht⟩:=List.exists_of_findSome?_eq_some h
   split at ht
   ·cases ht
   ·rcases ih _ _ ht x hx with h1|h1
    ·rcases List.mem_append.1 h1 with h2|h2
     ·exact .inl h2
     ·rw[List.mem_singleton.1 h2];exact .inr htd
    ·exact .inr h1
theorem zwv {h:List Op3} {o:List Int}(hs:zjx(doneL h)=some o):∀d∈o,1≤d∧d≤6:=fun d hd=>by
 rcases try_mem _ _ _ _ _ hs d hd with h1|h1
 ·cases h1
 ·have:=zbk.1 h1
  exact⟨this.1,this.2.1⟩
theorem zyO(kind:Int)(okF:Kst→Int→Dl→Bool)(byN:Bool) {h:List Op3}(hc:(chk h).2=0):∀x∈(outU kind okF byN h).1.1,1≤x∧x≤6:=fun x hx=>by
 rw[zld hc]at hx
 have hd:∀y∈(runK kind okF h h.length).done,1≤y∧y≤6:=fun y hy=>by
  have:=(zjg kind okF hc h.length(Nat.le_refl _)).comm y hy
  exact⟨this.2.1,this.2.2.1⟩
 have hx':x∈zoj byN(runK kind okF h h.length).done:=hx
 unfold zoj at hx'
 split at hx'
 ·unfold zle at hx'
  have:=(List.mem_filter.1 hx').1
  simp at this
  omega
 ·exact hd x hx'
theorem zzD {o:List Int} {v:Value} {w:World}(h:zaf w v o)(hl:o.length≤1000)(hx:∀d∈o,0≤d∧d<10000000)(hp:zel w):zsB 21 #[v,.nilIface]w(zhE(o.map Lib.itoa)) :=
 (zgW zwB zAv o v .nilIface w h hl hx hp).mono fun _ _⟨he,hb⟩=>⟨_,_,he,.inl⟨rfl,rfl⟩,hb⟩
theorem zvs {o:List Int} {v:Value} {w:World}(h:zaf w v o)(hl:o.length≤6)(hx:∀d∈o,1≤d∧d≤6)(hp:zel w):zsB 21 #[v,.nilIface]w(ztg o):=by
 rw[zmC hx]
 exact zzD h(by omega)(fun d hd=>by have:=hx d hd;omega)hp
theorem zvK(n:Int)(w:World)(hn:1≤n∧n≤8)(hp:zel w):zsB 21 #[.slice none 0 0,.iface 80(.int .i64 n)]w(zff n) :=
 (zgW zwB zAv [](.slice none 0 0)(.iface 80(.int .i64 n))w(zba w)(by simp)(fun d hd=>by cases hd)hp).mono fun _ _⟨he,hb⟩=>⟨_,_,he,.inr(.inl⟨_,n,rfl,rfl,hn,rfl⟩),hb⟩
theorem zvb {h:List Op3} {v:Value} {w:World}(hv:zai w v h)(hc:(chk h).2=0)(hp:zel w):Two 22 #[v]21 w(zjV(zcP(doneL h))8):=by
 refine(zAN h v w hv hc).mono ?_
 rintro e w1⟨(⟨o,v',hs,rfl,hI⟩|⟨hs,rfl⟩),hb⟩
 ·have h1:=(zi3(zl9 hc)hs).1
  exact⟨_,_,rfl,by rw[hs];exact zvs hI(ziR h1)(fun d hd=>zs2 h1 hd)(zcg hp hb),hb⟩
 ·exact⟨_,_,rfl,by rw[hs];exact zvK 8 w1(by decide)(zcg hp hb),hb⟩
theorem zzB {h:List Op3} {v:Value} {w:World}(hv:zai w v h)(hc:(chk h).2=0)(hp:zel w):Two 23 #[v]21 w(zjV(zjx(doneL h))5):=by
 refine(zrE h v w hv hc).mono ?_
 rintro e w1⟨(⟨o,v',hs,rfl,hI⟩|⟨hs,rfl⟩),hb⟩
 ·exact⟨_,_,rfl,by rw[hs];exact zvs hI(zpQ hs)(zwv hs)(zcg hp hb),hb⟩
 ·exact⟨_,_,rfl,by rw[hs];exact zvK 5 w1(by decide)(zcg hp hb),hb⟩
theorem zvF {h:List Op3} {ad:Option Addr} {cap:Nat} {w:World}(hv:zai w(.slice ad h.length cap)h)(hcap:h.length≤cap)(hc:(chk h).2=0):Two 25 #[.slice ad h.length cap]24 w(zis [(zz2,zx4 h),(zzS,zyt h),(zzY,zy4 h),(zz1,zzg h)]):=by
 refine(zCs h ad cap w hv hcap).mono ?_
 rintro e w1⟨rfl,hb⟩
 refine⟨_,_,rfl,?_,hb⟩
 rw[hc]
 refine(zns zwB(zjB h) .nilIface w1).mono ?_
 rintro e w2⟨rfl,hb2⟩
 refine⟨_,_,rfl,.inl⟨?_,rfl⟩,hb2⟩
 have e1:zjB h=(zx4 h,zyt h,zy4 h,zzg h):=by unfold zjB;rw[if_neg(by simpa using hc)]
 rw[e1,zkf(by simp[zz2,zzS,zzY,zz1])]
 rfl
theorem zxj {h:List Op3} {ad:Option Addr} {cap:Nat} {w:World}(hv:zai w(.slice ad h.length cap)h)(hcap:h.length≤cap)(hc:(chk h).2=0):Two 27 #[.slice ad h.length cap]26 w(zis [(dwW,(ziA h).1.1),(drW,(ziA h).1.2.1),(unW,(ziA h).1.2.2.1),(loW,(ziA h).1.2.2.2)]):=by
 refine(zBs h ad cap w hv hcap).mono ?_
 rintro e w1⟨rfl,hb⟩
 refine⟨_,_,rfl,?_,hb⟩
 rw[hc]
 refine(znP zwB(zml h) .nilIface w1).mono ?_
 rintro e w2⟨rfl,hb2⟩
 refine⟨_,_,rfl,.inl⟨?_,rfl⟩,hb2⟩
 have e1:zml h=(ziA h).1:=by unfold zml;rw[if_neg(by simpa using hc)]
 rw[e1,zkf(by simp[dwW,drW,unW,loW])]
 rfl
theorem zq4 {h:List Op3} {v:Value} {w:World}(hv:zai w v h)(hc:(chk h).2=0)(hp:zel w):Two 28 #[v]21 w(zsF(valsL(doneL h))):=by
 refine(zvO h v w hv hc).mono ?_
 rintro e w1⟨v',rfl,hI,hb⟩
 have hx:∀d∈valsL(doneL h),0≤d∧d<10000000:=fun d hd=>by
  obtain⟨j,_,rfl⟩:=List.mem_map.1 hd
  have:=zdH(doneL h)(doneL h).length((j:Int)+1)
  omega
 refine⟨_,_,rfl,?_,hb⟩
 rw[zwL(by unfold valsL;simp)fun d hd=>(hx d hd).1]
 exact zzD hI(by unfold valsL;simp)hx(zcg hp hb)
theorem zpH {l:List Op3} {v v2:Value} {w:World}(h:zai w v l):zsB 29 #[v,v2,.nilIface]w(zhA l):=by
 refine(zCh l v v2 w h).mono ?_
 rintro e w1⟨rfl,hb⟩
 refine⟨_,_,rfl,?_,hb⟩
 unfold zhA
 by_cases hc:(chk l).2=0
 ·have hn:¬(chk l).2≠0:=fun h=>h hc
  rw[if_pos hc,if_neg hn,hc]
  exact .inl⟨rfl,rfl⟩
 ·rw[if_neg hc,if_pos hc,ziN hc]
  exact .inr(.inl⟨_,_,rfl,rfl,zqm l hc,rfl⟩)
theorem zeP {h:List Op3} {v:Value} {w:World}(way:Int)(hw:0≤way∧way≤2)(hv:zai w v h)(hc:(chk h).2=0):zsz 30 #[v,.int .i64 way]29 w(zhA(zbi h way).1.1):=by
 refine(zAs h v way w hv).mono ?_
 rintro e w1⟨v1,v2,rfl,hI,-,hb⟩
 have e0:(zbi h way).2=0:=by unfold zbi;rw[if_neg(by simpa using hc),if_neg(by omega)]
 exact⟨_,_,_,rfl,by rw[e0];exact zpH hI,hb⟩
theorem zoY {h:List Op3} {v:Value} {w:World}(hv:zai w v h)(hc:(chk h).2=0):zsz 31 #[v,.bool false]29 w(zhA(zdw false h).1.1):=by
 refine(zCk h v false w hv).mono ?_
 rintro e w1⟨v1,v2,rfl,hI,-,hb⟩
 exact⟨_,_,_,rfl,by rw[show(zdw false h).2=0 by rw[zh9 hc]];exact zpH hI,hb⟩
theorem zhI {F:FuncId} {kind:Int} {okF:Kst→Int→Dl→Bool} {byN:Bool}(hR:zow F kind okF byN) {h:List Op3} {v:Value} {w:World}(hv:zai w v h)(hc:(chk h).2=0)(hp:zel w):Two F #[v]32 w(ztg(outU kind okF byN h).1.1):=by
 refine(hR h v w hv).mono ?_
 rintro e w1⟨a1,a2,a3,rfl,hI,-,-,-,hb⟩
 have hx:=zyO kind okF byN hc
 refine⟨_,_,rfl,?_,hb⟩
 rw[show(outU kind okF byN h).2=0 by rw[zld hc],zmC hx]
 exact(zxD zwB zAv _ a1 a2 a3 .nilIface w1 hI(by have:=(zqu kind okF byN h).1;omega)(fun d hd=>by have:=hx d hd;omega)(zcg hp hb)).mono fun _ _⟨he,hb⟩=>⟨_,_,he,.inl⟨rfl,rfl⟩,hb⟩
theorem ztT(l:List UInt8)(w:World):Calls Tryz.prog 19 #[zaV l,.string⟨#[104,105,115,116,111,114,121,32]⟩]w fun e w'=>e=.returned(.tuple #[zaV(if l.take 8=zfx then l.drop 8 else l),.bool(decide(l.take 8=zfx))])∧w'=w:=by
 have e1:Lib.hasPrefix l zfx=decide(l.take 8=zfx):=by
  unfold Lib.hasPrefix
  rw[Bool.eq_iff_iff,List.isPrefixOf_iff_prefix,decide_eq_true_iff,List.prefix_iff_eq_take]
  exact⟨fun h=>h.symm,fun h=>h.symm⟩
 have e2:Lib.trimPrefix l zfx=if l.take 8=zfx then l.drop 8 else l:=by
  unfold Lib.trimPrefix
  rw[e1]
  by_cases h:l.take 8=zfx
  ·rw[decide_eq_true h,if_pos h];rfl
  ·rw[decide_eq_false h,if_neg h];rfl
 have h:=Any.strings_CutPrefix Tryz.lays103⟨l.toArray⟩⟨#[104,105,115,116,111,114,121,32]⟩w
 refine h.mono ?_
 rintro e w'⟨rfl,hw⟩
 refine⟨?_,hw⟩
 show Ending.returned(.tuple #[zaV(Lib.trimPrefix l zfx),.bool(Lib.hasPrefix l zfx)])=_
 rw[e1,e2]
theorem zbf(l:List UInt8)(w:World)(h:l.take 8≠zfx):Calls Tryz.prog 19 #[zaV l,.string⟨#[104,105,115,116,111,114,121,32]⟩]w fun e w'=>e=.returned(.tuple #[zaV l,.bool false])∧w'=w:=by
 refine(ztT l w).mono ?_
 rintro e w'⟨rfl,hw⟩
 exact⟨by rw[if_neg h,decide_eq_false h],hw⟩
def zch(w w0:World)(t:List UInt8)(e:Ending):Prop:=∃x y,e=.returned(.tuple #[x,y])∧zeS w x y t∧Below w0.heap.size w0 w
set_option maxHeartbeats 4000000 in
set_option maxRecDepth 100000 in
theorem zxE {sb:Nat} {v:Value} {w:World} {t:List UInt8}(hv:w.cell?⟨sb,0,none⟩=some v)(h2:Two 22 #[v]21 w t) :
  Calls Tryz.prog 15 #[.pointer(some⟨sb,0,none⟩),zaV zjG]w fun e w'=>zch w' w t e:=by
 have H2:=zak h2
 have HC:Hid(∀W,Calls Tryz.prog 19 #[.string⟨#[111,114,100,101,114]⟩,.string⟨#[104,105,115,116,111,114,121,32]⟩]W fun e w'=>e=.returned(.tuple #[.string⟨#[111,114,100,101,114]⟩,.bool false])∧w'=W):=fun W=>zbf zjG W(by decide)
 have HP:Hid(∀(W:World)(x y:Value),zeS W x y t→Below w.heap.size w W→zch W w t(.returned(.tuple #[x,y]))):=fun W x y a b=>⟨x,y,rfl,a,b⟩
 clear h2
 show Calls _ _ #[.pointer(some⟨sb,0,none⟩),.string⟨#[111,114,100,101,114]⟩]w _
 go_enter Tryz.func15,Tryz.ntmps15
 go_wp2_with(first|(go_at_call 19;refine(HC.out _).mono ?_;rintro e w⟨rfl,rfl⟩)|(go_at_call 22;refine H2.out.mono ?_;rintro e w1⟨v1,v2,rfl,hT,hb1⟩)|(go_at_call 21;refine hT.mono ?_;rintro e w2⟨x,y,rfl,hE,hb2⟩;have HE:=zak hE;have HB2:Hid(Below w.heap.size w w2):=hb1.trans(hb2.mono hb1.size);clear hE hb2))
 go_ret2
 exact HP.out _ _ _ HE.out HB2.out
set_option maxHeartbeats 4000000 in
set_option maxRecDepth 100000 in
theorem zAJ {sb:Nat} {v:Value} {w:World} {t:List UInt8}(hv:w.cell?⟨sb,0,none⟩=some v)(h2:Two 23 #[v]21 w t) :
  Calls Tryz.prog 15 #[.pointer(some⟨sb,0,none⟩),zaV zrs]w fun e w'=>zch w' w t e:=by
 have H2:=zak h2
 have HC:Hid(∀W,Calls Tryz.prog 19 #[.string⟨#[118,105,101,119]⟩,.string⟨#[104,105,115,116,111,114,121,32]⟩]W fun e w'=>e=.returned(.tuple #[.string⟨#[118,105,101,119]⟩,.bool false])∧w'=W):=fun W=>zbf zrs W(by decide)
 have HP:Hid(∀(W:World)(x y:Value),zeS W x y t→Below w.heap.size w W→zch W w t(.returned(.tuple #[x,y]))):=fun W x y a b=>⟨x,y,rfl,a,b⟩
 clear h2
 show Calls _ _ #[.pointer(some⟨sb,0,none⟩),.string⟨#[118,105,101,119]⟩]w _
 go_enter Tryz.func15,Tryz.ntmps15
 go_wp2_with(first|(go_at_call 19;refine(HC.out _).mono ?_;rintro e w⟨rfl,rfl⟩)|(go_at_call 23;refine H2.out.mono ?_;rintro e w1⟨v1,v2,rfl,hT,hb1⟩)|(go_at_call 21;refine hT.mono ?_;rintro e w2⟨x,y,rfl,hE,hb2⟩;have HE:=zak hE;have HB2:Hid(Below w.heap.size w w2):=hb1.trans(hb2.mono hb1.size);clear hE hb2))
 go_ret2
 exact HP.out _ _ _ HE.out HB2.out
set_option maxHeartbeats 4000000 in
set_option maxRecDepth 100000 in
theorem zyB {sb:Nat} {v:Value} {w:World} {t:List UInt8}(hv:w.cell?⟨sb,0,none⟩=some v)(h2:Two 25 #[v]24 w t) :
  Calls Tryz.prog 15 #[.pointer(some⟨sb,0,none⟩),zaV zj5]w fun e w'=>zch w' w t e:=by
 have H2:=zak h2
 have HC:Hid(∀W,Calls Tryz.prog 19 #[.string⟨#[102,97,99,101,115]⟩,.string⟨#[104,105,115,116,111,114,121,32]⟩]W fun e w'=>e=.returned(.tuple #[.string⟨#[102,97,99,101,115]⟩,.bool false])∧w'=W):=fun W=>zbf zj5 W(by decide)
 have HP:Hid(∀(W:World)(x y:Value),zeS W x y t→Below w.heap.size w W→zch W w t(.returned(.tuple #[x,y]))):=fun W x y a b=>⟨x,y,rfl,a,b⟩
 clear h2
 show Calls _ _ #[.pointer(some⟨sb,0,none⟩),.string⟨#[102,97,99,101,115]⟩]w _
 go_enter Tryz.func15,Tryz.ntmps15
 go_wp2_with(first|(go_at_call 19;refine(HC.out _).mono ?_;rintro e w⟨rfl,rfl⟩)|(go_at_call 25;refine H2.out.mono ?_;rintro e w1⟨v1,v2,rfl,hT,hb1⟩)|(go_at_call 24;refine hT.mono ?_;rintro e w2⟨x,y,rfl,hE,hb2⟩;have HE:=zak hE;have HB2:Hid(Below w.heap.size w w2):=hb1.trans(hb2.mono hb1.size);clear hE hb2))
 go_ret2
 exact HP.out _ _ _ HE.out HB2.out
set_option maxHeartbeats 4000000 in
set_option maxRecDepth 100000 in
theorem zBv {sb:Nat} {v:Value} {w:World} {t:List UInt8}(hv:w.cell?⟨sb,0,none⟩=some v)(h2:Two 27 #[v]26 w t) :
  Calls Tryz.prog 15 #[.pointer(some⟨sb,0,none⟩),zaV zrG]w fun e w'=>zch w' w t e:=by
 have H2:=zak h2
 have HC:Hid(∀W,Calls Tryz.prog 19 #[.string⟨#[105,108,108,115]⟩,.string⟨#[104,105,115,116,111,114,121,32]⟩]W fun e w'=>e=.returned(.tuple #[.string⟨#[105,108,108,115]⟩,.bool false])∧w'=W):=fun W=>zbf zrG W(by decide)
 have HP:Hid(∀(W:World)(x y:Value),zeS W x y t→Below w.heap.size w W→zch W w t(.returned(.tuple #[x,y]))):=fun W x y a b=>⟨x,y,rfl,a,b⟩
 clear h2
 show Calls _ _ #[.pointer(some⟨sb,0,none⟩),.string⟨#[105,108,108,115]⟩]w _
 go_enter Tryz.func15,Tryz.ntmps15
 go_wp2_with(first|(go_at_call 19;refine(HC.out _).mono ?_;rintro e w⟨rfl,rfl⟩)|(go_at_call 27;refine H2.out.mono ?_;rintro e w1⟨v1,v2,rfl,hT,hb1⟩)|(go_at_call 26;refine hT.mono ?_;rintro e w2⟨x,y,rfl,hE,hb2⟩;have HE:=zak hE;have HB2:Hid(Below w.heap.size w w2):=hb1.trans(hb2.mono hb1.size);clear hE hb2))
 go_ret2
 exact HP.out _ _ _ HE.out HB2.out
set_option maxHeartbeats 4000000 in
set_option maxRecDepth 100000 in
theorem zwA {sb:Nat} {v:Value} {w:World} {t:List UInt8}(hv:w.cell?⟨sb,0,none⟩=some v)(h2:Two 28 #[v]21 w t) :
  Calls Tryz.prog 15 #[.pointer(some⟨sb,0,none⟩),zaV zgS]w fun e w'=>zch w' w t e:=by
 have H2:=zak h2
 have HC:Hid(∀W,Calls Tryz.prog 19 #[.string⟨#[118,97,108,117,101,115]⟩,.string⟨#[104,105,115,116,111,114,121,32]⟩]W fun e w'=>e=.returned(.tuple #[.string⟨#[118,97,108,117,101,115]⟩,.bool false])∧w'=W):=fun W=>zbf zgS W(by decide)
 have HP:Hid(∀(W:World)(x y:Value),zeS W x y t→Below w.heap.size w W→zch W w t(.returned(.tuple #[x,y]))):=fun W x y a b=>⟨x,y,rfl,a,b⟩
 clear h2
 show Calls _ _ #[.pointer(some⟨sb,0,none⟩),.string⟨#[118,97,108,117,101,115]⟩]w _
 go_enter Tryz.func15,Tryz.ntmps15
 go_wp2_with(first|(go_at_call 19;refine(HC.out _).mono ?_;rintro e w⟨rfl,rfl⟩)|(go_at_call 28;refine H2.out.mono ?_;rintro e w1⟨v1,v2,rfl,hT,hb1⟩)|(go_at_call 21;refine hT.mono ?_;rintro e w2⟨x,y,rfl,hE,hb2⟩;have HE:=zak hE;have HB2:Hid(Below w.heap.size w w2):=hb1.trans(hb2.mono hb1.size);clear hE hb2))
 go_ret2
 exact HP.out _ _ _ HE.out HB2.out
set_option maxHeartbeats 4000000 in
set_option maxRecDepth 100000 in
theorem zuq {sb:Nat} {v:Value} {w:World} {t:List UInt8}(hv:w.cell?⟨sb,0,none⟩=some v)(h2:zsz 30 #[v,.int .i64 0]29 w t) :
  Calls Tryz.prog 15 #[.pointer(some⟨sb,0,none⟩),zaV zg1]w fun e w'=>zch w' w t e:=by
 have H2:=zak h2
 have HC:Hid(∀W,Calls Tryz.prog 19 #[.string⟨#[100,101,116,101,99,116]⟩,.string⟨#[104,105,115,116,111,114,121,32]⟩]W fun e w'=>e=.returned(.tuple #[.string⟨#[100,101,116,101,99,116]⟩,.bool false])∧w'=W):=fun W=>zbf zg1 W(by decide)
 have HP:Hid(∀(W:World)(x y:Value),zeS W x y t→Below w.heap.size w W→zch W w t(.returned(.tuple #[x,y]))):=fun W x y a b=>⟨x,y,rfl,a,b⟩
 clear h2
 show Calls _ _ #[.pointer(some⟨sb,0,none⟩),.string⟨#[100,101,116,101,99,116]⟩]w _
 go_enter Tryz.func15,Tryz.ntmps15
 go_wp2_with(first|(go_at_call 19;refine(HC.out _).mono ?_;rintro e w⟨rfl,rfl⟩)|(go_at_call 30;refine H2.out.mono ?_;rintro e w1⟨v1,v2,v3,rfl,hT,hb1⟩)|(go_at_call 29;refine hT.mono ?_;rintro e w2⟨x,y,rfl,hE,hb2⟩;have HE:=zak hE;have HB2:Hid(Below w.heap.size w w2):=hb1.trans(hb2.mono hb1.size);clear hE hb2))
 go_ret2
 exact HP.out _ _ _ HE.out HB2.out
set_option maxHeartbeats 4000000 in
set_option maxRecDepth 100000 in
theorem zrg {sb:Nat} {v:Value} {w:World} {t:List UInt8}(hv:w.cell?⟨sb,0,none⟩=some v)(h2:zsz 30 #[v,.int .i64 1]29 w t) :
  Calls Tryz.prog 15 #[.pointer(some⟨sb,0,none⟩),zaV zst]w fun e w'=>zch w' w t e:=by
 have H2:=zak h2
 have HC:Hid(∀W,Calls Tryz.prog 19 #[.string⟨#[119,97,105,116,100,105,101]⟩,.string⟨#[104,105,115,116,111,114,121,32]⟩]W fun e w'=>e=.returned(.tuple #[.string⟨#[119,97,105,116,100,105,101]⟩,.bool false])∧w'=W):=fun W=>zbf zst W(by decide)
 have HP:Hid(∀(W:World)(x y:Value),zeS W x y t→Below w.heap.size w W→zch W w t(.returned(.tuple #[x,y]))):=fun W x y a b=>⟨x,y,rfl,a,b⟩
 clear h2
 show Calls _ _ #[.pointer(some⟨sb,0,none⟩),.string⟨#[119,97,105,116,100,105,101]⟩]w _
 go_enter Tryz.func15,Tryz.ntmps15
 go_wp2_with(first|(go_at_call 19;refine(HC.out _).mono ?_;rintro e w⟨rfl,rfl⟩)|(go_at_call 30;refine H2.out.mono ?_;rintro e w1⟨v1,v2,v3,rfl,hT,hb1⟩)|(go_at_call 29;refine hT.mono ?_;rintro e w2⟨x,y,rfl,hE,hb2⟩;have HE:=zak hE;have HB2:Hid(Below w.heap.size w w2):=hb1.trans(hb2.mono hb1.size);clear hE hb2))
 go_ret2
 exact HP.out _ _ _ HE.out HB2.out
set_option maxHeartbeats 4000000 in
set_option maxRecDepth 100000 in
theorem zmj {sb:Nat} {v:Value} {w:World} {t:List UInt8}(hv:w.cell?⟨sb,0,none⟩=some v)(h2:zsz 30 #[v,.int .i64 2]29 w t) :
  Calls Tryz.prog 15 #[.pointer(some⟨sb,0,none⟩),zaV zkk]w fun e w'=>zch w' w t e:=by
 have H2:=zak h2
 have HC:Hid(∀W,Calls Tryz.prog 19 #[.string⟨#[119,111,117,110,100,119,97,105,116]⟩,.string⟨#[104,105,115,116,111,114,121,32]⟩]W fun e w'=>e=.returned(.tuple #[.string⟨#[119,111,117,110,100,119,97,105,116]⟩,.bool false])∧w'=W):=fun W=>zbf zkk W(by decide)
 have HP:Hid(∀(W:World)(x y:Value),zeS W x y t→Below w.heap.size w W→zch W w t(.returned(.tuple #[x,y]))):=fun W x y a b=>⟨x,y,rfl,a,b⟩
 clear h2
 show Calls _ _ #[.pointer(some⟨sb,0,none⟩),.string⟨#[119,111,117,110,100,119,97,105,116]⟩]w _
 go_enter Tryz.func15,Tryz.ntmps15
 go_wp2_with(first|(go_at_call 19;refine(HC.out _).mono ?_;rintro e w⟨rfl,rfl⟩)|(go_at_call 30;refine H2.out.mono ?_;rintro e w1⟨v1,v2,v3,rfl,hT,hb1⟩)|(go_at_call 29;refine hT.mono ?_;rintro e w2⟨x,y,rfl,hE,hb2⟩;have HE:=zak hE;have HB2:Hid(Below w.heap.size w w2):=hb1.trans(hb2.mono hb1.size);clear hE hb2))
 go_ret2
 exact HP.out _ _ _ HE.out HB2.out
set_option maxHeartbeats 4000000 in
set_option maxRecDepth 100000 in
theorem zyY {sb:Nat} {v:Value} {w:World} {t:List UInt8}(hv:w.cell?⟨sb,0,none⟩=some v)(h2:zsz 31 #[v,.bool false]29 w t) :
  Calls Tryz.prog 15 #[.pointer(some⟨sb,0,none⟩),zaV zku]w fun e w'=>zch w' w t e:=by
 have H2:=zak h2
 have HC:Hid(∀W,Calls Tryz.prog 19 #[.string⟨#[115,116,97,109,112]⟩,.string⟨#[104,105,115,116,111,114,121,32]⟩]W fun e w'=>e=.returned(.tuple #[.string⟨#[115,116,97,109,112]⟩,.bool false])∧w'=W):=fun W=>zbf zku W(by decide)
 have HP:Hid(∀(W:World)(x y:Value),zeS W x y t→Below w.heap.size w W→zch W w t(.returned(.tuple #[x,y]))):=fun W x y a b=>⟨x,y,rfl,a,b⟩
 clear h2
 show Calls _ _ #[.pointer(some⟨sb,0,none⟩),.string⟨#[115,116,97,109,112]⟩]w _
 go_enter Tryz.func15,Tryz.ntmps15
 go_wp2_with(first|(go_at_call 19;refine(HC.out _).mono ?_;rintro e w⟨rfl,rfl⟩)|(go_at_call 31;refine H2.out.mono ?_;rintro e w1⟨v1,v2,v3,rfl,hT,hb1⟩)|(go_at_call 29;refine hT.mono ?_;rintro e w2⟨x,y,rfl,hE,hb2⟩;have HE:=zak hE;have HB2:Hid(Below w.heap.size w w2):=hb1.trans(hb2.mono hb1.size);clear hE hb2))
 go_ret2
 exact HP.out _ _ _ HE.out HB2.out
set_option maxHeartbeats 4000000 in
set_option maxRecDepth 100000 in
theorem zxk {sb:Nat} {v:Value} {w:World} {t:List UInt8}(hv:w.cell?⟨sb,0,none⟩=some v)(h2:Two 33 #[v]32 w t) :
  Calls Tryz.prog 15 #[.pointer(some⟨sb,0,none⟩),zaV zjW]w fun e w'=>zch w' w t e:=by
 have H2:=zak h2
 have HC:Hid(∀W,Calls Tryz.prog 19 #[.string⟨#[118,97,108,105,100]⟩,.string⟨#[104,105,115,116,111,114,121,32]⟩]W fun e w'=>e=.returned(.tuple #[.string⟨#[118,97,108,105,100]⟩,.bool false])∧w'=W):=fun W=>zbf zjW W(by decide)
 have HP:Hid(∀(W:World)(x y:Value),zeS W x y t→Below w.heap.size w W→zch W w t(.returned(.tuple #[x,y]))):=fun W x y a b=>⟨x,y,rfl,a,b⟩
 clear h2
 show Calls _ _ #[.pointer(some⟨sb,0,none⟩),.string⟨#[118,97,108,105,100]⟩]w _
 go_enter Tryz.func15,Tryz.ntmps15
 go_wp2_with(first|(go_at_call 19;refine(HC.out _).mono ?_;rintro e w⟨rfl,rfl⟩)|(go_at_call 33;refine H2.out.mono ?_;rintro e w1⟨v1,v2,rfl,hT,hb1⟩)|(go_at_call 32;refine hT.mono ?_;rintro e w2⟨x,y,rfl,hE,hb2⟩;have HE:=zak hE;have HB2:Hid(Below w.heap.size w w2):=hb1.trans(hb2.mono hb1.size);clear hE hb2))
 go_ret2
 exact HP.out _ _ _ HE.out HB2.out
set_option maxHeartbeats 4000000 in
set_option maxRecDepth 100000 in
theorem zAx {sb:Nat} {v:Value} {w:World} {t:List UInt8}(hv:w.cell?⟨sb,0,none⟩=some v)(h2:Two 34 #[v]32 w t) :
  Calls Tryz.prog 15 #[.pointer(some⟨sb,0,none⟩),zaV zr7]w fun e w'=>zch w' w t e:=by
 have H2:=zak h2
 have HC:Hid(∀W,Calls Tryz.prog 19 #[.string⟨#[115,110,97,112]⟩,.string⟨#[104,105,115,116,111,114,121,32]⟩]W fun e w'=>e=.returned(.tuple #[.string⟨#[115,110,97,112]⟩,.bool false])∧w'=W):=fun W=>zbf zr7 W(by decide)
 have HP:Hid(∀(W:World)(x y:Value),zeS W x y t→Below w.heap.size w W→zch W w t(.returned(.tuple #[x,y]))):=fun W x y a b=>⟨x,y,rfl,a,b⟩
 clear h2
 show Calls _ _ #[.pointer(some⟨sb,0,none⟩),.string⟨#[115,110,97,112]⟩]w _
 go_enter Tryz.func15,Tryz.ntmps15
 go_wp2_with(first|(go_at_call 19;refine(HC.out _).mono ?_;rintro e w⟨rfl,rfl⟩)|(go_at_call 34;refine H2.out.mono ?_;rintro e w1⟨v1,v2,rfl,hT,hb1⟩)|(go_at_call 32;refine hT.mono ?_;rintro e w2⟨x,y,rfl,hE,hb2⟩;have HE:=zak hE;have HB2:Hid(Below w.heap.size w w2):=hb1.trans(hb2.mono hb1.size);clear hE hb2))
 go_ret2
 exact HP.out _ _ _ HE.out HB2.out
set_option maxHeartbeats 4000000 in
set_option maxRecDepth 100000 in
theorem zwF {sb:Nat} {v:Value} {w:World} {t:List UInt8}(hv:w.cell?⟨sb,0,none⟩=some v)(h2:Two 35 #[v]32 w t) :
  Calls Tryz.prog 15 #[.pointer(some⟨sb,0,none⟩),zaV zgV]w fun e w'=>zch w' w t e:=by
 have H2:=zak h2
 have HC:Hid(∀W,Calls Tryz.prog 19 #[.string⟨#[100,97,110,103,101,114]⟩,.string⟨#[104,105,115,116,111,114,121,32]⟩]W fun e w'=>e=.returned(.tuple #[.string⟨#[100,97,110,103,101,114]⟩,.bool false])∧w'=W):=fun W=>zbf zgV W(by decide)
 have HP:Hid(∀(W:World)(x y:Value),zeS W x y t→Below w.heap.size w W→zch W w t(.returned(.tuple #[x,y]))):=fun W x y a b=>⟨x,y,rfl,a,b⟩
 clear h2
 show Calls _ _ #[.pointer(some⟨sb,0,none⟩),.string⟨#[100,97,110,103,101,114]⟩]w _
 go_enter Tryz.func15,Tryz.ntmps15
 go_wp2_with(first|(go_at_call 19;refine(HC.out _).mono ?_;rintro e w⟨rfl,rfl⟩)|(go_at_call 35;refine H2.out.mono ?_;rintro e w1⟨v1,v2,rfl,hT,hb1⟩)|(go_at_call 32;refine hT.mono ?_;rintro e w2⟨x,y,rfl,hE,hb2⟩;have HE:=zak hE;have HB2:Hid(Below w.heap.size w w2):=hb1.trans(hb2.mono hb1.size);clear hE hb2))
 go_ret2
 exact HP.out _ _ _ HE.out HB2.out
set_option maxHeartbeats 4000000 in
set_option maxRecDepth 100000 in
theorem znT {sb:Nat} {v:Value} {w:World} {t:List UInt8}(hv:w.cell?⟨sb,0,none⟩=some v)(h2:Two 36 #[v]32 w t) :
  Calls Tryz.prog 15 #[.pointer(some⟨sb,0,none⟩),zaV ztd]w fun e w'=>zch w' w t e:=by
 have H2:=zak h2
 have HC:Hid(∀W,Calls Tryz.prog 19 #[.string⟨#[118,101,114,115,105,111,110,115]⟩,.string⟨#[104,105,115,116,111,114,121,32]⟩]W fun e w'=>e=.returned(.tuple #[.string⟨#[118,101,114,115,105,111,110,115]⟩,.bool false])∧w'=W):=fun W=>zbf ztd W(by decide)
 have HP:Hid(∀(W:World)(x y:Value),zeS W x y t→Below w.heap.size w W→zch W w t(.returned(.tuple #[x,y]))):=fun W x y a b=>⟨x,y,rfl,a,b⟩
 clear h2
 show Calls _ _ #[.pointer(some⟨sb,0,none⟩),.string⟨#[118,101,114,115,105,111,110,115]⟩]w _
 go_enter Tryz.func15,Tryz.ntmps15
 go_wp2_with(first|(go_at_call 19;refine(HC.out _).mono ?_;rintro e w⟨rfl,rfl⟩)|(go_at_call 36;refine H2.out.mono ?_;rintro e w1⟨v1,v2,rfl,hT,hb1⟩)|(go_at_call 32;refine hT.mono ?_;rintro e w2⟨x,y,rfl,hE,hb2⟩;have HE:=zak hE;have HB2:Hid(Below w.heap.size w w2):=hb1.trans(hb2.mono hb1.size);clear hE hb2))
 go_ret2
 exact HP.out _ _ _ HE.out HB2.out
open Go.RowKit Go.Extern.Stop Go.Stop Go.Extern
theorem zjC(v:Value)(w:World):(ReflectliteType.typeOf #[.iface 51 v]).run Tryz.prog w=.ok(.iface 239(.agg #[.pointer(some⟨6,51,none⟩)]))w:=by kernel_rfl
theorem zwc(w:World):(ReflectliteType.relation "AssignableTo" ReflectliteType.assignableTo #[.agg #[.pointer(some⟨6,51,none⟩)],.iface 239(.agg #[.pointer(some⟨6,80,none⟩)])]).run Tryz.prog w=.ok(.bool false)w:=by kernel_rfl
theorem zsD(v:Value)(w:World):(ReflectliteType.typeOf #[.iface 337 v]).run Tryz.prog w=.ok(.iface 239(.agg #[.pointer(some⟨6,337,none⟩)]))w:=by kernel_rfl
theorem zA4(w:World):(ReflectliteType.relation "AssignableTo" ReflectliteType.assignableTo #[.agg #[.pointer(some⟨6,337,none⟩)],.iface 239(.agg #[.pointer(some⟨6,80,none⟩)])]).run Tryz.prog w=.ok(.bool false)w:=by kernel_rfl
theorem zqJ(v:Value)(x:TypeId)(w:World):(Instr.typeAssert(.iface 51 v)x 244 true).run Tryz.prog w=.ok(.tuple #[.nilIface,.bool false])w :=
 run_typeAssert_lacksB Tryz.underlying244(by kernel_rfl)(by kernel_rfl)v x w
theorem zzI(v:Value)(x:TypeId)(w:World):(Instr.typeAssert(.iface 51 v)x 247 true).run Tryz.prog w=.ok(.tuple #[.iface 51 v,.bool true])w :=
 run_typeAssert_hasB Tryz.underlying247(by kernel_rfl)v x w
theorem zy6(v:Value)(x:TypeId)(w:World):(Instr.typeAssert(.iface 337 v)x 244 true).run Tryz.prog w=.ok(.tuple #[.nilIface,.bool false])w :=
 run_typeAssert_lacksB Tryz.underlying244(by kernel_rfl)(by kernel_rfl)v x w
theorem zzC(v:Value)(x:TypeId)(w:World):(Instr.typeAssert(.iface 337 v)x 247 true).run Tryz.prog w=.ok(.tuple #[.nilIface,.bool false])w :=
 run_typeAssert_lacksB Tryz.underlying247(by kernel_rfl)(by kernel_rfl)v x w
theorem zv5(v:Value)(x:TypeId)(w:World):(Instr.typeAssert(.iface 337 v)x 249 true).run Tryz.prog w=.ok(.tuple #[.nilIface,.bool false])w :=
 run_typeAssert_lacksB Tryz.underlying249(by kernel_rfl)(by kernel_rfl)v x w
set_option maxHeartbeats 4000000 in
theorem zBN(n:Int)(t:Addr)(old:Value)(w:World)(hg:w.cell?⟨1,0,none⟩=some(.iface 239(.agg #[.pointer(some⟨6,39,none⟩)])))(ht0:w.cell? t=some old)(hf0:w.frozen? t=false) :
  Calls Tryz.prog 37 #[.iface 51(.agg #[.iface 80(.int .i64 n)]),.iface 82(.pointer(some t))]w fun ev w'=>ev=.returned(.bool true)∧w'=(((((w.alloc(.cells #[.pointer(some t)]82)).alloc(.cells #[.pointer(some⟨6,82,none⟩),.pointer(some⟨w.heap.size,0,none⟩),.int .u64 150]175)).alloc(.cells #[.pointer(some⟨6,82,none⟩),.pointer(some⟨w.heap.size,0,none⟩),.int .u64 150]175)).alloc(.cells #[.iface 80(.int .i64 n)]51)).alloc(.cells #[.int .i64 n]80)).setCell t(.int .i64 n):=by
 have h6:=@run_callFunc_extern Tryz.prog 98 _(fun args=>ReflectliteValue.unpack(args.getD 0(.tuple #[])))Tryz.func98(by kernel_rfl)(by kernel_rfl)(by kernel_rfl)(by kernel_rfl)
 have h7:=@run_callFunc_extern Tryz.prog 99 _(ReflectliteValue.methodAny(ReflectliteValue.valueError "reflectlite.Value.Type" 0)(fun t _ _ _=>ReflectliteType.toType t))Tryz.func99(by kernel_rfl)(by kernel_rfl)(by kernel_rfl)(by kernel_rfl)
 have h8:=@run_callFunc_extern Tryz.prog 100 _(ReflectliteValue.method(ReflectliteValue.valueError "reflectlite.Value.IsNil" 0)ReflectliteValue.isNil)Tryz.func100(by kernel_rfl)(by kernel_rfl)(by kernel_rfl)(by kernel_rfl)
 have h27:=@run_callFunc_extern Tryz.prog 296 _(ReflectliteType.abiMethod fun t=>do pure(.int .u8(←Rtype.kind t)))Tryz.func296(by kernel_rfl)(by kernel_rfl)(by kernel_rfl)(by kernel_rfl)
 have h37:=@run_callFunc_extern Tryz.prog 308 _(ReflectliteType.method ReflectliteType.elem)Tryz.func308(by kernel_rfl)(by kernel_rfl)(by kernel_rfl)(by kernel_rfl)
 have h38:=@run_callFunc_extern Tryz.prog 309 _(ReflectliteType.relation "Implements" ReflectliteType.implements_)Tryz.func309(by kernel_rfl)(by kernel_rfl)(by kernel_rfl)(by kernel_rfl)
 have h10:=@run_callFunc_extern Tryz.prog 170 _ ReflectliteType.typeOf Tryz.func170(by kernel_rfl)(by kernel_rfl)(by kernel_rfl)(by kernel_rfl)
 have h35:=@run_callFunc_extern Tryz.prog 306 _(ReflectliteType.relation "AssignableTo" ReflectliteType.assignableTo)Tryz.func306(by kernel_rfl)(by kernel_rfl)(by kernel_rfl)(by kernel_rfl)
 have h11:=@run_callFunc_extern Tryz.prog 171 _(ReflectliteValue.method(ReflectliteValue.valueError "reflectlite.Value.Elem" 0)ReflectliteValue.elem)Tryz.func171(by kernel_rfl)(by kernel_rfl)(by kernel_rfl)(by kernel_rfl)
 have h12:=@run_callFunc_extern Tryz.prog 172 _ ReflectliteValue.set Tryz.func172(by kernel_rfl)(by kernel_rfl)(by kernel_rfl)(by kernel_rfl)
 have tO:=zjL
 have a25:=zgy
 have v25:=zi7
 have f6:=ziP
 have f7:=zp0
 have k27:=zpR
 have k25:=zqD
 have e27:=zqq
 have i25:=zgh
 have n8:=zl6⟨w.heap.size,0,none⟩t((w.alloc(.cells #[.pointer(some t)]82)).alloc(.cells #[.pointer(some⟨6,82,none⟩),.pointer(some⟨w.heap.size,0,none⟩),.int .u64 150]175))(by simp)
 have hlt:1<w.heap.size:=World.block_lt_of_cell? w _ hg
 have hg2:((w.alloc(.cells #[.pointer(some t)]82)).alloc(.cells #[.pointer(some⟨6,82,none⟩),.pointer(some⟨w.heap.size,0,none⟩),.int .u64 150]175)).cell?⟨1,0,none⟩=some(.iface 239(.agg #[.pointer(some⟨6,39,none⟩)])):=by
  rw[World.cell?_alloc_lt _ _⟨1,0,none⟩(by show 1<_;rw[World.size_alloc];exact Nat.lt_succ_of_lt hlt),World.cell?_alloc_lt _ _⟨1,0,none⟩hlt];exact hg
 have htl:t.block<w.heap.size:=by
  rcases Nat.lt_or_ge t.block w.heap.size with h|h
  ·exact h
  ·simp[World.cell?,Array.getElem?_eq_none h]at ht0
 have tF:=zjC
 have nF:=zwc
 have kF:=zqJ
 have uF:=zzI
 have el:=zzv⟨w.heap.size,0,none⟩t((((w.alloc(.cells #[.pointer(some t)]82)).alloc(.cells #[.pointer(some⟨6,82,none⟩),.pointer(some⟨w.heap.size,0,none⟩),.int .u64 150]175)).alloc(.cells #[.pointer(some⟨6,82,none⟩),.pointer(some⟨w.heap.size,0,none⟩),.int .u64 150]175)).alloc(.cells #[.iface 80(.int .i64 n)]51))(by rw[World.cell?_alloc_lt _ _⟨w.heap.size,0,none⟩(by simp;omega),World.cell?_alloc_lt _ _⟨w.heap.size,0,none⟩(by simp;omega)];simp)
 have lv:((((w.alloc(.cells #[.pointer(some t)]82)).alloc(.cells #[.pointer(some⟨6,82,none⟩),.pointer(some⟨w.heap.size,0,none⟩),.int .u64 150]175)).alloc(.cells #[.pointer(some⟨6,82,none⟩),.pointer(some⟨w.heap.size,0,none⟩),.int .u64 150]175)).alloc(.cells #[.iface 80(.int .i64 n)]51)).cell?⟨w.heap.size+1+1,0,none⟩=some(.pointer(some⟨6,82,none⟩))∧((((w.alloc(.cells #[.pointer(some t)]82)).alloc(.cells #[.pointer(some⟨6,82,none⟩),.pointer(some⟨w.heap.size,0,none⟩),.int .u64 150]175)).alloc(.cells #[.pointer(some⟨6,82,none⟩),.pointer(some⟨w.heap.size,0,none⟩),.int .u64 150]175)).alloc(.cells #[.iface 80(.int .i64 n)]51)).cell?⟨w.heap.size+1+1,1,none⟩=some(.pointer(some⟨w.heap.size,0,none⟩))∧((((w.alloc(.cells #[.pointer(some t)]82)).alloc(.cells #[.pointer(some⟨6,82,none⟩),.pointer(some⟨w.heap.size,0,none⟩),.int .u64 150]175)).alloc(.cells #[.pointer(some⟨6,82,none⟩),.pointer(some⟨w.heap.size,0,none⟩),.int .u64 150]175)).alloc(.cells #[.iface 80(.int .i64 n)]51)).cell?⟨w.heap.size+1+1,2,none⟩=some(.int .u64 150):=by
  refine⟨?_,?_,?_⟩ <;> (rw[World.cell?_alloc_lt _ _ _(by simp),World.cell?_alloc_at _ _ _ _(by simp)];rfl)
 obtain⟨l0,l1,l2⟩:=lv
 have st:=zCa t⟨w.heap.size+1+1+1+1,0,none⟩n old(((((w.alloc(.cells #[.pointer(some t)]82)).alloc(.cells #[.pointer(some⟨6,82,none⟩),.pointer(some⟨w.heap.size,0,none⟩),.int .u64 150]175)).alloc(.cells #[.pointer(some⟨6,82,none⟩),.pointer(some⟨w.heap.size,0,none⟩),.int .u64 150]175)).alloc(.cells #[.iface 80(.int .i64 n)]51)).alloc(.cells #[.int .i64 n]80))
  (by rw[World.cell?_alloc_at _ _ _ _(by simp)];rfl)
  (by rw[World.cell?_alloc_lt _ _ t(by simp;omega),World.cell?_alloc_lt _ _ t(by simp;omega),World.cell?_alloc_lt _ _ t(by simp;omega),World.cell?_alloc_lt _ _ t(by simp;omega),World.cell?_alloc_lt _ _ t htl];exact ht0)
  (by rw[World.frozen?_alloc_old _ _ t(by simp;omega),World.frozen?_alloc_old _ _ t(by simp;omega),World.frozen?_alloc_old _ _ t(by simp;omega),World.frozen?_alloc_old _ _ t(by simp;omega),World.frozen?_alloc_old _ _ t(Nat.ne_of_lt htl)];exact hf0)
 go_enter Tryz.func37,Tryz.ntmps37
 go_wp2
 refine wp_loop_rounds 2 ?_
 rw[rounds_succ]
 go_wp2
 rw[rounds_succ]
 go_wp2
 go_ret
 exact⟨rfl,rfl⟩
set_option maxHeartbeats 4000000 in
theorem zza(v:Value)(t:Addr)(old:Value)(w:World)(hg:w.cell?⟨1,0,none⟩=some(.iface 239(.agg #[.pointer(some⟨6,39,none⟩)])))(ht0:w.cell? t=some old) :
  Calls Tryz.prog 37 #[.iface 51(.agg #[.iface 337 v]),.iface 82(.pointer(some t))]w fun ev w'=>ev=.returned(.bool false)∧w'=((((w.alloc(.cells #[.pointer(some t)]82)).alloc(.cells #[.pointer(some⟨6,82,none⟩),.pointer(some⟨w.heap.size,0,none⟩),.int .u64 150]175)).alloc(.cells #[.pointer(some⟨6,82,none⟩),.pointer(some⟨w.heap.size,0,none⟩),.int .u64 150]175)).alloc(.cells #[.iface 337 v]51)):=by
 have h6:=@run_callFunc_extern Tryz.prog 98 _(fun args=>ReflectliteValue.unpack(args.getD 0(.tuple #[])))Tryz.func98(by kernel_rfl)(by kernel_rfl)(by kernel_rfl)(by kernel_rfl)
 have h7:=@run_callFunc_extern Tryz.prog 99 _(ReflectliteValue.methodAny(ReflectliteValue.valueError "reflectlite.Value.Type" 0)(fun t _ _ _=>ReflectliteType.toType t))Tryz.func99(by kernel_rfl)(by kernel_rfl)(by kernel_rfl)(by kernel_rfl)
 have h8:=@run_callFunc_extern Tryz.prog 100 _(ReflectliteValue.method(ReflectliteValue.valueError "reflectlite.Value.IsNil" 0)ReflectliteValue.isNil)Tryz.func100(by kernel_rfl)(by kernel_rfl)(by kernel_rfl)(by kernel_rfl)
 have h27:=@run_callFunc_extern Tryz.prog 296 _(ReflectliteType.abiMethod fun t=>do pure(.int .u8(←Rtype.kind t)))Tryz.func296(by kernel_rfl)(by kernel_rfl)(by kernel_rfl)(by kernel_rfl)
 have h37:=@run_callFunc_extern Tryz.prog 308 _(ReflectliteType.method ReflectliteType.elem)Tryz.func308(by kernel_rfl)(by kernel_rfl)(by kernel_rfl)(by kernel_rfl)
 have h38:=@run_callFunc_extern Tryz.prog 309 _(ReflectliteType.relation "Implements" ReflectliteType.implements_)Tryz.func309(by kernel_rfl)(by kernel_rfl)(by kernel_rfl)(by kernel_rfl)
 have h10:=@run_callFunc_extern Tryz.prog 170 _ ReflectliteType.typeOf Tryz.func170(by kernel_rfl)(by kernel_rfl)(by kernel_rfl)(by kernel_rfl)
 have h35:=@run_callFunc_extern Tryz.prog 306 _(ReflectliteType.relation "AssignableTo" ReflectliteType.assignableTo)Tryz.func306(by kernel_rfl)(by kernel_rfl)(by kernel_rfl)(by kernel_rfl)
 have h11:=@run_callFunc_extern Tryz.prog 171 _(ReflectliteValue.method(ReflectliteValue.valueError "reflectlite.Value.Elem" 0)ReflectliteValue.elem)Tryz.func171(by kernel_rfl)(by kernel_rfl)(by kernel_rfl)(by kernel_rfl)
 have h12:=@run_callFunc_extern Tryz.prog 172 _ ReflectliteValue.set Tryz.func172(by kernel_rfl)(by kernel_rfl)(by kernel_rfl)(by kernel_rfl)
 have tO:=zjL
 have a25:=zgy
 have v25:=zi7
 have f6:=ziP
 have f7:=zp0
 have k27:=zpR
 have k25:=zqD
 have e27:=zqq
 have i25:=zgh
 have n8:=zl6⟨w.heap.size,0,none⟩t((w.alloc(.cells #[.pointer(some t)]82)).alloc(.cells #[.pointer(some⟨6,82,none⟩),.pointer(some⟨w.heap.size,0,none⟩),.int .u64 150]175))(by simp)
 have hlt:1<w.heap.size:=World.block_lt_of_cell? w _ hg
 have hg2:((w.alloc(.cells #[.pointer(some t)]82)).alloc(.cells #[.pointer(some⟨6,82,none⟩),.pointer(some⟨w.heap.size,0,none⟩),.int .u64 150]175)).cell?⟨1,0,none⟩=some(.iface 239(.agg #[.pointer(some⟨6,39,none⟩)])):=by
  rw[World.cell?_alloc_lt _ _⟨1,0,none⟩(by show 1<_;rw[World.size_alloc];exact Nat.lt_succ_of_lt hlt),World.cell?_alloc_lt _ _⟨1,0,none⟩hlt];exact hg
 have htl:t.block<w.heap.size:=by
  rcases Nat.lt_or_ge t.block w.heap.size with h|h
  ·exact h
  ·simp[World.cell?,Array.getElem?_eq_none h]at ht0
 have tF:=zjC
 have nF:=zwc
 have kF:=zqJ
 have uF:=zzI
 have tS:=zsD
 have nS:=zA4
 have kS:=zy6
 have uS:=zzC
 have usS:=zv5
 go_enter Tryz.func37,Tryz.ntmps37
 go_wp2
 refine wp_loop_rounds 2 ?_
 rw[rounds_succ]
 go_wp2
 rw[rounds_succ]
 go_wp2
 go_ret
 exact⟨rfl,rfl⟩
theorem zyh(n:Int)(w:World)(h1:1≤n)(h8:n≤8):Calls Tryz.prog 38 #[.int .i64 n]w fun e w'=>e=.returned(zaV(zff n))∧w'=w:=by
 rcases(show n=1∨n=2∨n=3∨n=4∨n=5∨n=6∨n=7∨n=8 by omega)with rfl|rfl|rfl|rfl|rfl|rfl|rfl|rfl
 all_goals
  go_enter Tryz.func38,Tryz.ntmps38
  go_wp2_with fail
  go_ret
  exact⟨rfl,rfl⟩
set_option maxHeartbeats 2000000 in
theorem zr4(n:Int)(w:World)(h1:1≤n)(h8:n≤8)(hg:zlx w) :
  Calls Tryz.prog 16 #[.agg #[.iface 80(.int .i64 n)]]w fun e w'=>e=.returned(zaV(zff n))∧Below w.heap.size w w':=by
 obtain⟨W,hW⟩:∃W,W=(w.alloc(.cells #[.iface 80(.int .i64 n)]51)).alloc(.cells #[.int .i64 0]80):=⟨_,rfl⟩
 have hgA:W.cell?⟨1,0,none⟩=some(.iface 239(.agg #[.pointer(some⟨6,39,none⟩)])):=by rw[hW];exact(hg.alloc _).alloc _
 have htA:W.cell?⟨w.heap.size+1,0,none⟩=some(.int .i64 0):=by rw[hW,World.cell?_alloc_at _ _ _ _(by simp)];rfl
 have hfA:W.frozen?⟨w.heap.size+1,0,none⟩=false:=by rw[hW];simp
 have hB:Below w.heap.size w W:=by rw[hW];exact((Below.refl _ w).alloc(Nat.le_refl _)_).alloc(by simp)_
 have hz:W.heap.size=w.heap.size+2:=by rw[hW];simp
 have HA:Hid(Calls Tryz.prog 37 #[.iface 51(.agg #[.iface 80(.int .i64 n)]),.iface 82(.pointer(some⟨w.heap.size+1,0,none⟩))]W fun e w'=>e=.returned(.bool true)∧w'.cell?⟨w.heap.size+1,0,none⟩=some(.int .i64 n)∧Below w.heap.size w w'):=by
  refine(zBN n _(.int .i64 0)W hgA htA hfA).mono ?_
  rintro e w'⟨rfl,hw⟩
  obtain⟨V,hV,rfl⟩:∃V,Below W.heap.size W V∧w'=V.setCell⟨w.heap.size+1,0,none⟩(.int .i64 n):=⟨_,by go_grown,hw⟩
  refine⟨rfl,World.cell?_setCell_same' _ _ _ ?_,(hB.trans(hV.mono hB.size)).setCell(p:=⟨w.heap.size+1,0,none⟩)(by show w.heap.size≤w.heap.size+1;omega)_⟩
  rw[hV.cell(p:=⟨w.heap.size+1,0,none⟩)(by show w.heap.size+1<_;omega),htA];rfl
 have HE:=zak(fun W=>zyh n W h1 h8)
 rw[hW]at HA
 clear hgA htA hfA hB hz hW hg h1 h8
 go_enter Tryz.func16,Tryz.ntmps16
 go_wp2_with(first|(go_at_call 37;refine HA.out.mono ?_;rintro e w1⟨rfl,hc1,hb1⟩)|(go_at_call 38;refine(HE.out _).mono ?_;rintro e w2⟨rfl,rfl⟩))
 go_ret
 exact⟨rfl,hb1⟩
theorem zqT(a:Addr)(s:ByteArray)(w:World)(ha:w.cell? a=some(.string s)):Calls Tryz.prog 316 #[.pointer(some a)]w fun e w'=>e=.returned(.string s)∧w'=w:=by
 go_enter Tryz.func316,Tryz.ntmps316
 go_wp2_with fail
 go_ret
 exact⟨rfl,rfl⟩
set_option maxHeartbeats 2000000 in
theorem zyD(a:Addr)(w:World)(ha:w.cell? a=some(.string⟨#[98,97,100]⟩))(hg:zlx w) :
  Calls Tryz.prog 16 #[.agg #[.iface 337(.pointer(some a))]]w fun e w'=>e=.returned(zaV zBR)∧Below w.heap.size w w':=by
 have hal:=World.block_lt_of_cell? w a ha
 obtain⟨W,hW⟩:∃W,W=(w.alloc(.cells #[.iface 337(.pointer(some a))]51)).alloc(.cells #[.int .i64 0]80):=⟨_,rfl⟩
 have hgA:W.cell?⟨1,0,none⟩=some(.iface 239(.agg #[.pointer(some⟨6,39,none⟩)])):=by rw[hW];exact(hg.alloc _).alloc _
 have htA:W.cell?⟨w.heap.size+1,0,none⟩=some(.int .i64 0):=by rw[hW,World.cell?_alloc_at _ _ _ _(by simp)];rfl
 have hfA:W.cell?⟨w.heap.size,0,none⟩=some(.iface 337(.pointer(some a))):=by rw[hW,World.cell?_alloc_lt _ _ _(by simp),World.cell?_alloc_at _ _ _ _(by simp)];rfl
 have hB:Below w.heap.size w W:=by rw[hW];exact((Below.refl _ w).alloc(Nat.le_refl _)_).alloc(by simp)_
 have hz:W.heap.size=w.heap.size+2:=by rw[hW];simp
 have HA:Hid(Calls Tryz.prog 37 #[.iface 51(.agg #[.iface 337(.pointer(some a))]),.iface 82(.pointer(some⟨w.heap.size+1,0,none⟩))]W fun e w'=>e=.returned(.bool false)∧(w'.cell?⟨w.heap.size,0,none⟩=some(.iface 337(.pointer(some a)))∧w'.cell? a=some(.string⟨#[98,97,100]⟩))∧Below w.heap.size w w'):=by
  refine(zza _ _(.int .i64 0)W hgA htA).mono ?_
  rintro e w'⟨rfl,hw⟩
  have hV:Below W.heap.size W w':=by rw[hw];go_grown
  exact⟨rfl,⟨(hV.cell(p:=⟨w.heap.size,0,none⟩)(by show w.heap.size<_;omega)).trans hfA,(hV.cell(p:=a)(by omega)).trans((hB.cell(p:=a)hal).trans ha)⟩,hB.trans(hV.mono hB.size)⟩
 rw[hW]at HA
 clear hgA htA hfA hB hz hW hg ha hal
 go_enter Tryz.func16,Tryz.ntmps16
 go_wp2_with(first|(go_at_call 37;refine HA.out.mono ?_;rintro e w1⟨rfl,⟨hc0,hc1⟩,hb1⟩)|(go_at_call 316;refine(zqT a _ _ hc1).mono ?_;rintro e w2⟨rfl,rfl⟩))
 go_ret
 exact⟨rfl,hb1⟩
def Ses(B:Nat)(w:World)(sb:Nat)(v:Value)(h:List Op3):Prop:=w.heap[sb]? = some(.cells #[v]30(0,0))∧w.ownsRow B 103 3 v h.length(flat h)
theorem Ses.below {B:Nat} {w w1:World} {sb:Nat} {v:Value} {h:List Op3}(hs:Ses B w sb v h)(hb:Below w.heap.size w w1):Ses B w1 sb v h:=⟨(hb.block sb(zbJ hs.1)).trans hs.1,zaL hs.2 hb(Nat.le_refl _)⟩
structure zrX(sb:Nat)(w w1:World):Prop where
 os:w1.os=w.os
 tape:w1.tape=w.tape
 output:w1.output=w.output
 size:w.heap.size≤w1.heap.size
 block:∀k,k<w.heap.size→k≠sb→w1.heap[k]? = w.heap[k]?
theorem zoC {sb:Nat} {w w1:World}(h:Below w.heap.size w w1):zrX sb w w1:=⟨h.os,h.tape,h.output,h.size,fun k hk _=>h.block k hk⟩
theorem zzq {sb:Nat} {w w1:World}(h:Below w.heap.size w w1)(v:Value):zrX sb w(w1.setCell⟨sb,0,none⟩v):=by
 have h0:=(Below.refl sb w1).setCell(p:=⟨sb,0,none⟩)(Nat.le_refl _)v
 exact⟨h0.os.trans h.os,h0.tape.trans h.tape,h0.output.trans h.output,Nat.le_trans h.size h0.size,fun k hk hne=>(Below.heap_setCell w1⟨sb,0,none⟩v k hne).trans(h.block k hk)⟩
theorem zrX.below {sb B:Nat} {w w1:World}(h:zrX sb w w1)(h1:B≤sb)(h2:B≤w.heap.size):Below B w w1:=⟨h.os,h.tape,h.output,h.size,fun k hk=>h.block k(by omega)(by omega)⟩
theorem zrX.more {sb:Nat} {w w1 w2:World}(h:zrX sb w w1)(hb:Below w1.heap.size w1 w2):zrX sb w w2 :=
 ⟨hb.os.trans h.os,hb.tape.trans h.tape,hb.output.trans h.output,Nat.le_trans h.size hb.size,fun k hk hne=>(hb.block k(Nat.lt_of_lt_of_le hk h.size)).trans(h.block k hk hne)⟩
def zn6(h:List Op3)(l:List UInt8):List UInt8 × List Op3:=match zb4 l with
 | none=>(zff 2,h)
 | some ds=>if(chk(ds.take 41)).2≠0 then(zff(chk(ds.take 41)).2,h)else(zC2,ds)
def zpn(B sb:Nat)(w:World)(r:List UInt8 × List Op3)(e:Ending)(w1:World):Prop:=∃x y,e=.returned(.tuple #[x,y])∧zeS w1 x y r.1∧(∃v1,Ses B w1 sb v1 r.2)∧zrX sb w w1
set_option maxHeartbeats 2000000 in
theorem zAu {B sb:Nat} {v:Value} {h:List Op3} {w:World}(l:List UInt8)(hl:l.length≤9223372036854775807)(hs:Ses B w sb v h)(hB:B≤w.heap.size) :
  Calls Tryz.prog 20 #[.pointer(some⟨sb,0,none⟩),zaV l]w fun e w'=>zpn B sb w(zn6 h l)e w':=by
 unfold zn6
 have HS:=zak hs
 cases hp:zb4 l with
 | none =>
   have HP:=zak(zjk l w hl hp)
   have HF:Hid(∀w1,Below w.heap.size w w1→zpn B sb w(zff 2,h)(.returned(.tuple #[.string⟨#[]⟩,.iface 80(.int .i64 2)]))w1):=fun w1 hb=>⟨_,_,rfl,.inr(.inl⟨_,2,rfl,rfl,by decide,rfl⟩),⟨v,HS.out.below hb⟩,zoC hb⟩
   clear hs hp hB
   go_enter Tryz.func20,Tryz.ntmps20
   go_wp2_with(go_at_call 41;refine HP.out.mono ?_;rintro e w1⟨rfl,hb1⟩)
   go_ret2
   exact HF.out _ hb1
 | some ds =>
   by_cases hc:(chk(ds.take 41)).2=0
   ·have HP:=zak(ztG l ds w hl hp hc)
    have hk:¬(chk(ds.take 41)).2≠0:=fun h=>h hc
    simp only[if_neg hk]
    have HF:Hid(∀w1 v1,Below w.heap.size w w1→w1.ownsRow w.heap.size 103 3 v1 ds.length(flat ds)→zpn B sb w(zC2,ds)(.returned(.tuple #[.string⟨#[111,107]⟩,.nilIface]))(w1.setCell⟨sb,0,none⟩v1)):=fun w1 v1 hb ho=>by
     have hb0:=(HS.out.below hb).1
     have hlt:=zbJ HS.out.1
     refine⟨_,_,rfl,.inl⟨rfl,rfl⟩,⟨v1,?_,?_⟩,zzq hb v1⟩
     ·simp[World.setCell,Array.getElem?_modify,hb0]
     ·refine zhJ(World.ownsRow.kept ho(row:=some sb)⟨rfl,rfl,rfl,by simp[World.setCell],fun k _ hk=>Below.heap_setCell _ _ _ _(fun e=>hk(by simp[e]))⟩(Or.inr(zkJ ho hb0 fun cs fr e=>?_)))hB
      injection e with _ e2
      exact absurd e2(by decide)
    have HW:Hid(∀w1,Below w.heap.size w w1→w1.cell?⟨sb,0,none⟩=some v∧w1.frozen?⟨sb,0,none⟩=false):=fun w1 hb=>⟨(Lib.cell_of_heap(HS.out.below hb).1 0).trans rfl,Lib.frozen_of_heap(HS.out.below hb).1 0⟩
    clear hs hp hB hc hk
    go_enter Tryz.func20,Tryz.ntmps20
    go_wp2_with(go_at_call 41;refine HP.out.mono ?_;rintro e w1⟨v1,rfl,⟨-,ho1⟩,hb1⟩;obtain⟨hc1,hf1⟩:=HW.out w1 hb1;obtain⟨ad,cap,rfl⟩:=zeN ho1;have HO1:=zak ho1;have HB1:=zak hb1;clear ho1 hb1)
    go_ret2
    exact HF.out _ _ HB1.out HO1.out
   ·have HP:=zak(zt7 l ds w hl hp hc)
    simp only[if_pos hc]
    have HF:Hid(∀w1,Below w.heap.size w w1→zpn B sb w(zff(chk(ds.take 41)).2,h)(.returned(.tuple #[.string⟨#[]⟩,.iface 80(.int .i64(chk(ds.take 41)).2)]))w1):=fun w1 hb=>⟨_,_,rfl,.inr(.inl⟨_,_,rfl,rfl,zqm _ hc,rfl⟩),⟨v,HS.out.below hb⟩,zoC hb⟩
    obtain⟨n,hn⟩:∃n,(chk(ds.take 41)).2=n:=⟨_,rfl⟩
    rw[hn]at HP HF ⊢
    clear hs hp hB hc hn
    go_enter Tryz.func20,Tryz.ntmps20
    go_wp2_with(go_at_call 41;refine HP.out.mono ?_;rintro e w1⟨rfl,hb1⟩)
    go_ret2
    exact HF.out _ hb1
set_option maxHeartbeats 4000000 in
set_option maxRecDepth 100000 in
theorem zBG {B sb:Nat} {v:Value} {h:List Op3} {w:World}(l:List UInt8)(hl:l.length≤9223372036854775807)(hs:Ses B w sb v h)(hB:B≤w.heap.size)(hh:l.take 8=zfx) :
  Calls Tryz.prog 15 #[.pointer(some⟨sb,0,none⟩),zaV l]w fun e w'=>zpn B sb w(zn6 h(l.drop 8))e w':=by
 have HC:Hid(∀W,Calls Tryz.prog 19 #[zaV l,.string⟨#[104,105,115,116,111,114,121,32]⟩]W fun e w'=>e=.returned(.tuple #[zaV(l.drop 8),.bool true])∧w'=W):=fun W=>(ztT l W).mono fun e w'⟨he,hw⟩=>⟨by rw[he,if_pos hh,decide_eq_true hh],hw⟩
 have HT:=zak(zAu(l.drop 8)(by rw[List.length_drop];omega)hs hB)
 have HP:Hid(∀(W:World)(x y:Value),zeS W x y(zn6 h(l.drop 8)).1→(∃v1,Ses B W sb v1(zn6 h(l.drop 8)).2)→zrX sb w W→zpn B sb w(zn6 h(l.drop 8))(.returned(.tuple #[x,y]))W):=fun W x y a b c=>⟨x,y,rfl,a,b,c⟩
 clear hs hB hh hl
 go_enter Tryz.func15,Tryz.ntmps15
 go_wp2_with(first|(go_at_call 19;refine(HC.out _).mono ?_;rintro e w⟨rfl,rfl⟩)|(go_at_call 20;refine HT.out.mono ?_;rintro e w2⟨x,y,rfl,hE,hS,hU⟩))
 go_ret2
 exact HP.out _ _ _ hE hS hU
set_option maxHeartbeats 4000000 in
set_option maxRecDepth 100000 in
theorem zCx {sb:Nat} {w:World}(l:List UInt8)(h:l.take 8≠zfx)(hb:zB0 w)(hn:l≠zjG∧l≠zrs∧l≠zj5∧l≠zrG∧l≠zgS∧l≠zg1∧l≠zst∧l≠zkk∧l≠zku∧l≠zjW∧l≠zr7∧l≠zgV∧l≠ztd) :
  Calls Tryz.prog 15 #[.pointer(some⟨sb,0,none⟩),zaV l]w fun e w'=>zch w' w zBR e:=by
 have HC:=zak(fun W=>zbf l W h)
 obtain⟨a,hg,ha⟩:=hb
 have HP:Hid(∀(W:World),W.heap=w.heap→Below w.heap.size w W→zch W w zBR(.returned(.tuple #[.string⟨#[]⟩,.iface 337(.pointer(some a))]))):=fun W hW hb=>⟨_,_,rfl,.inr(.inr⟨_,a,rfl,rfl,(hb.cell(p:=a)(World.block_lt_of_cell? w a ha)).trans ha,rfl⟩),hb⟩
 obtain⟨n0,n1,n2,n3,n4,n5,n6,n7,n8,n9,n10,n11,n12⟩:=hn
 have b0:(l == [111,114,100,101,114])=false:=beq_eq_false_iff_ne.2 n0
 have b1:(l == [118,105,101,119])=false:=beq_eq_false_iff_ne.2 n1
 have b2:(l == [102,97,99,101,115])=false:=beq_eq_false_iff_ne.2 n2
 have b3:(l == [105,108,108,115])=false:=beq_eq_false_iff_ne.2 n3
 have b4:(l == [118,97,108,117,101,115])=false:=beq_eq_false_iff_ne.2 n4
 have b5:(l == [100,101,116,101,99,116])=false:=beq_eq_false_iff_ne.2 n5
 have b6:(l == [119,97,105,116,100,105,101])=false:=beq_eq_false_iff_ne.2 n6
 have b7:(l == [119,111,117,110,100,119,97,105,116])=false:=beq_eq_false_iff_ne.2 n7
 have b8:(l == [115,116,97,109,112])=false:=beq_eq_false_iff_ne.2 n8
 have b9:(l == [118,97,108,105,100])=false:=beq_eq_false_iff_ne.2 n9
 have b10:(l == [115,110,97,112])=false:=beq_eq_false_iff_ne.2 n10
 have b11:(l == [100,97,110,103,101,114])=false:=beq_eq_false_iff_ne.2 n11
 have b12:(l == [118,101,114,115,105,111,110,115])=false:=beq_eq_false_iff_ne.2 n12
 clear h ha n0 n1 n2 n3 n4 n5 n6 n7 n8 n9 n10 n11 n12
 go_enter Tryz.func15,Tryz.ntmps15
 go_wp2_with(go_at_call 19;refine(HC.out _).mono ?_;rintro e w⟨rfl,rfl⟩)
 go_quiet(fail)
 go_wp2_with fail
 go_ret2
 exact HP.out _ rfl⟨rfl,rfl,rfl,Nat.le_refl _,fun _ _=>rfl⟩
theorem zAZ {B:Nat} {w:World} {sb:Nat} {v:Value} {h:List Op3}(hs:Ses B w sb v h):zai w v h∧w.cell?⟨sb,0,none⟩=some v∧∃(ad:Option Addr)(cap:Nat),v=.slice ad h.length cap∧h.length≤cap:=by
 refine⟨zen hs.2 rfl,(Lib.cell_of_heap hs.1 0).trans rfl,?_⟩
 rcases hs.2.2 with⟨hv,h0⟩|⟨g,cap,cur,hv,_,_,hc,_⟩
 ·exact⟨none,0,by rw[hv,h0],by omega⟩
 ·exact⟨_,cap,hv,hc⟩
theorem zCO {B sb:Nat} {v:Value} {h:List Op3} {w:World}(l:List UInt8)(hs:Ses B w sb v h)(hc:(chk h).2=0)(hg:ziZ w)(hh:l.take 8≠zfx) :
  Calls Tryz.prog 15 #[.pointer(some⟨sb,0,none⟩),zaV l]w fun e w'=>zch w' w(zfg h l)e:=by
 obtain⟨hv,hcell,ad,cap,rfl,hcap⟩:=zAZ hs
 have hp:=hg.pow
 by_cases n0:l=zjG
 ·rw[n0,show zfg h zjG=_ by unfold zfg;rw[if_pos rfl]]
  exact zxE hcell(zvb hv hc hp)
 by_cases n1:l=zrs
 ·rw[n1,show zfg h zrs=_ by unfold zfg;rw[if_neg(by decide),if_pos rfl]]
  exact zAJ hcell(zzB hv hc hp)
 by_cases n2:l=zj5
 ·rw[n2,show zfg h zj5=_ by unfold zfg;rw[if_neg(by decide),if_neg(by decide),if_pos rfl]]
  exact zyB hcell(zvF hv hcap hc)
 by_cases n3:l=zrG
 ·rw[n3,show zfg h zrG=_ by unfold zfg;rw[if_neg(by decide),if_neg(by decide),if_neg(by decide),if_pos rfl]]
  exact zBv hcell(zxj hv hcap hc)
 by_cases n4:l=zgS
 ·rw[n4,show zfg h zgS=_ by unfold zfg;rw[if_neg(by decide),if_neg(by decide),if_neg(by decide),if_neg(by decide),if_pos rfl]]
  exact zwA hcell(zq4 hv hc hp)
 by_cases n5:l=zg1
 ·rw[n5,show zfg h zg1=_ by unfold zfg;rw[if_neg(by decide),if_neg(by decide),if_neg(by decide),if_neg(by decide),if_neg(by decide),if_pos rfl]]
  exact zuq hcell(zeP 0(by decide)hv hc)
 by_cases n6:l=zst
 ·rw[n6,show zfg h zst=_ by unfold zfg;rw[if_neg(by decide),if_neg(by decide),if_neg(by decide),if_neg(by decide),if_neg(by decide),if_neg(by decide),if_pos rfl]]
  exact zrg hcell(zeP 1(by decide)hv hc)
 by_cases n7:l=zkk
 ·rw[n7,show zfg h zkk=_ by unfold zfg;rw[if_neg(by decide),if_neg(by decide),if_neg(by decide),if_neg(by decide),if_neg(by decide),if_neg(by decide),if_neg(by decide),if_pos rfl]]
  exact zmj hcell(zeP 2(by decide)hv hc)
 by_cases n8:l=zku
 ·rw[n8,show zfg h zku=_ by unfold zfg;rw[if_neg(by decide),if_neg(by decide),if_neg(by decide),if_neg(by decide),if_neg(by decide),if_neg(by decide),if_neg(by decide),if_neg(by decide),if_pos rfl]]
  exact zyY hcell(zoY hv hc)
 by_cases n9:l=zjW
 ·rw[n9,show zfg h zjW=_ by unfold zfg;rw[if_neg(by decide),if_neg(by decide),if_neg(by decide),if_neg(by decide),if_neg(by decide),if_neg(by decide),if_neg(by decide),if_neg(by decide),if_neg(by decide),if_pos rfl]]
  exact zxk hcell(zhI zCg hv hc hp)
 by_cases n10:l=zr7
 ·rw[n10,show zfg h zr7=_ by unfold zfg;rw[if_neg(by decide),if_neg(by decide),if_neg(by decide),if_neg(by decide),if_neg(by decide),if_neg(by decide),if_neg(by decide),if_neg(by decide),if_neg(by decide),if_neg(by decide),if_pos rfl]]
  exact zAx hcell(zhI zDe hv hc hp)
 by_cases n11:l=zgV
 ·rw[n11,show zfg h zgV=_ by unfold zfg;rw[if_neg(by decide),if_neg(by decide),if_neg(by decide),if_neg(by decide),if_neg(by decide),if_neg(by decide),if_neg(by decide),if_neg(by decide),if_neg(by decide),if_neg(by decide),if_neg(by decide),if_pos rfl]]
  exact zwF hcell(zhI zBm hv hc hp)
 by_cases n12:l=ztd
 ·rw[n12,show zfg h ztd=_ by unfold zfg;rw[if_neg(by decide),if_neg(by decide),if_neg(by decide),if_neg(by decide),if_neg(by decide),if_neg(by decide),if_neg(by decide),if_neg(by decide),if_neg(by decide),if_neg(by decide),if_neg(by decide),if_neg(by decide),if_pos rfl]]
  exact znT hcell(zhI zDo hv hc hp)
 rw[show zfg h l=zBR by unfold zfg;rw[if_neg n0,if_neg n1,if_neg n2,if_neg n3,if_neg n4,if_neg n5,if_neg n6,if_neg n7,if_neg n8,if_neg n9,if_neg n10,if_neg n11,if_neg n12]]
 exact zCx l hh hg.bad⟨n0,n1,n2,n3,n4,n5,n6,n7,n8,n9,n10,n11,n12⟩
theorem zC9 {B sb:Nat} {v:Value} {h:List Op3} {w:World}(l:List UInt8)(hl:l.length≤9223372036854775807)(hs:Ses B w sb v h)(hB:B≤w.heap.size)(hc:(chk h).2=0)(hg:ziZ w) :
  Calls Tryz.prog 15 #[.pointer(some⟨sb,0,none⟩),zaV l]w fun e w'=>zpn B sb w(zbb h l)e w':=by
 by_cases hh:l.take 8=zfx
 ·rw[show zbb h l=zn6 h(l.drop 8)by unfold zbb;rw[if_pos hh];rfl]
  exact zBG l hl hs hB hh
 ·rw[show zbb h l=(zfg h l,h)by unfold zbb;rw[if_neg hh]]
  exact(zCO l hs hc hg hh).mono fun e w'⟨x,y,he,hE,hb⟩=>⟨x,y,he,hE,⟨_,hs.below hb⟩,zoC hb⟩
def zwq(B sb:Nat)(w:World)(r:List UInt8 × List Op3)(e:Ending)(w1:World):Prop:=e=.returned(zaV r.1)∧(∃v1,Ses B w1 sb v1 r.2)∧zrX sb w w1
set_option maxHeartbeats 2000000 in
theorem zty {B sb:Nat} {v:Value} {h:List Op3} {w:World}(l:List UInt8)(hl:l.length≤9223372036854775807)(hs:Ses B w sb v h)(hB:B≤w.heap.size)(hsb:1<sb)(hc:(chk h).2=0)(hg:ziZ w) :
  Calls Tryz.prog 9 #[.pointer(some⟨sb,0,none⟩),zaV l]w fun e w'=>zwq B sb w(zbb h l)e w':=by
 have HD:=zak(zC9 l hl hs hB hc hg)
 have HET:Hid(∀w1,zrX sb w w1→zlx w1):=fun w1 hT=>by
  have h0:=hg.et
  have hlt:=hg.et.lt
  unfold zlx at h0 ⊢
  rw[World.cell?_of_block(w:=w)(hT.block _ hlt(by show 1≠sb;omega))]
  exact h0
 obtain⟨r,hr⟩:∃r,zbb h l=r:=⟨_,rfl⟩
 rw[hr]at HD ⊢
 have HF:Hid(∀w1 w2,(∃v1,Ses B w1 sb v1 r.2)→zrX sb w w1→Below w1.heap.size w1 w2→zwq B sb w r(.returned(zaV r.1))w2):=fun w1 w2⟨v1,h1⟩hT hb=>⟨rfl,⟨v1,h1.below hb⟩,hT.more hb⟩
 clear hs hB hsb hc hg hr hl
 go_enter Tryz.func9,Tryz.ntmps9
 go_wp2_with(go_at_call 15;refine HD.out.mono ?_)
 rintro e w1⟨x,y,rfl,hE,hS,hT⟩
 have HS:=zak hS
 have HT:=zak hT
 have he:=HET.out w1 hT
 clear hS hT
 rcases hE with⟨rfl,rfl⟩|⟨s,n,rfl,rfl,⟨h1,h8⟩,ht⟩|⟨s,a,rfl,rfl,ha,ht⟩
 ·go_wp2_with fail
  go_ret
  exact HF.out _ _ HS.out HT.out(Below.refl _ _)
 ·have HN:=zak(zr4 n w1 h1 h8 he)
  rw[←ht]at HN
  clear he h1 h8 ht
  go_wp2_with(go_at_call 16;refine HN.out.mono ?_;rintro e w2⟨rfl,hb2⟩)
  go_ret
  exact HF.out _ _ HS.out HT.out hb2
 ·have HN:=zak(zyD a w1 ha he)
  rw[←ht]at HN
  clear he ha ht
  go_wp2_with(go_at_call 16;refine HN.out.mono ?_;rintro e w2⟨rfl,hb2⟩)
  go_ret
  exact HF.out _ _ HS.out HT.out hb2
open Go.RowKit Go.Shelf
attribute [local go_sem]Oper.semAt_some
theorem zlX {w w1:World} {B e s n:Nat} {v:Value} {xs:List Value} {row:Option Nat}(h:w.ownsRow B e s v n xs)(hg:w.grownBy w1 row)(hr:∀r,row=some r→∃o:Obj,w.heap[r]? = some o∧∀cs fr,o≠.cells cs e fr):w1.ownsRow B e s v n xs:=by
 refine h.kept hg ?_
 cases hv:v.ownBlock with
 | none=>exact .inl rfl
 | some g =>
   refine .inr fun e=>?_
   obtain⟨o,h1,h2⟩:=hr g e.symm
   exact zkJ h h1 h2 hv
theorem ztN {B sb:Nat} {w w1:World} {v:Value} {h:List Op3} {row:Option Nat}(hs:Ses B w sb v h)(hg:w.grownBy w1 row)(hr:∀r,row=some r→∃o:Obj,w.heap[r]? = some o∧(∀cs fr,o≠.cells cs 30 fr)∧∀cs fr,o≠.cells cs 103 fr):Ses B w1 sb v h :=
 ⟨(hg.block sb(zbJ hs.1)(fun e=>by obtain⟨o,h1,h2,_⟩:=hr sb e.symm;rw[hs.1]at h1;exact h2 _ _(Option.some.inj h1).symm)).trans hs.1,zlX hs.2 hg fun r e=>by obtain⟨o,h1,_,h3⟩:=hr r e;exact⟨o,h1,h3⟩⟩
theorem zvl {B tb:Nat} {w:World} {bs:List Value}(h:Lib.IsBuilder 34 5 B tb bs w):∃cs,w.heap[tb]? = some(.cells cs 34(0,0)):=by
 rcases h with⟨_,v,hv,_⟩|⟨_,v,hv,_⟩
 ·exact⟨_,hv⟩
 ·exact⟨_,hv⟩
theorem zh5 {B tb:Nat} {w w1:World} {bs:List Value} {row:Option Nat}(h:Lib.IsBuilder 34 5 B tb bs w)(hg:w.grownBy w1 row)(hr:∀r,row=some r→∃o:Obj,w.heap[r]? = some o∧(∀cs fr,o≠.cells cs 34 fr)∧∀cs fr,o≠.cells cs 5 fr):Lib.IsBuilder 34 5 B tb bs w1∧w1.heap[tb]? = w.heap[tb]? := by
 obtain⟨cs,hcs⟩:=zvl h
 have hb:w1.heap[tb]? = w.heap[tb]? := hg.block tb(zbJ hcs)(fun e=>by obtain⟨o,h1,h2,_⟩:=hr tb e.symm;rw[hcs]at h1;exact h2 _ _(Option.some.inj h1).symm)
 have one:∀p,Lib.BuilderAt 34 5 B tb p bs w→Lib.BuilderAt 34 5 B tb p bs w1:=by
  rintro p⟨h1,v,hbk,hown,hne⟩
  exact⟨h1,v,hb.trans hbk,zlX hown hg(fun r e=>by obtain⟨o,h1,_,h3⟩:=hr r e;exact⟨o,h1,h3⟩),hne⟩
 refine⟨?_,hb⟩
 rcases h with h|h
 ·exact .inl(one _ h)
 ·exact .inr(one _ h)
theorem zfS {B sb:Nat} {w w1:World} {v:Value} {h:List Op3}(hs:Ses B w sb v h)(hU:zcr w w1):Ses B w1 sb v h:=by
 refine⟨hU sb _ hs.1(fun cs fr e=>?_)(fun cs fr e=>?_),hs.2.1,?_⟩
 ·injection e with _ e2
  exact absurd e2(by decide)
 ·injection e with _ e2
  exact absurd e2(by decide)
 ·rcases hs.2.2 with hn|⟨g,cap,cur,hv,hb,hg,rest⟩
  ·exact .inl hn
  ·refine .inr⟨g,cap,cur,hv,hb,hU g _ hg(fun cs fr e=>?_)(fun cs fr e=>?_),rest⟩
   ·injection e with _ e2
    exact absurd e2(by decide)
   ·injection e with _ e2
    exact absurd e2(by decide)
theorem zr0 {sb:Nat} {w w1:World} {cs:Array Value} {T:TypeId} {fr:Nat × Nat}(h:zrX sb w w1)(hs:w.heap[sb]? = some(.cells cs T fr)):KeepsOthers w w1 :=
 ⟨h.size,fun k o hk ho=>(h.block k(zbJ hk)(fun e=>by rw[e,hs]at hk;rw[←Option.some.inj hk]at ho;cases ho)).trans hk⟩
theorem zeD {B:Nat} {w w1:World}(h:zcr w w1)(hb:Below B w w1):KeepsOthers w w1 :=
 ⟨hb.size,fun k o hk ho=>h k o hk(fun cs fr e=>by rw[e]at ho;cases ho)(fun cs fr e=>by rw[e]at ho;cases ho)⟩
theorem zAG {S:Type}(f:S→List UInt8→List UInt8 × S)(h:S)(a b:List(List UInt8)):stL f h(a++b)=stL f(stL f h a)b:=by
 induction a generalizing h with
 | nil=>rfl
 | cons l r ih=>exact ih _
theorem zx8(ls:List(List UInt8)):∀h,(chk h).2=0→(chk(stL zbb h ls)).2=0:=by
 induction ls with
 | nil=>intro h hc;exact hc
 | cons l r ih=>intro h hc;exact ih _(line_right hc l)
theorem zym(ls:List(List UInt8)):(zfD zbb []ls).length≤ls.length*1000001:=by
 have h:=zql zyr(N:=1000000)(fun h l=>zkD h.2 l)⟨[],rfl⟩ls
 rw[zqP]at h
 exact h
theorem zp6(ls:List(List UInt8))(x:List UInt8):zfD zbb [](ls++[x])=zfD zbb []ls++(zbb(stL zbb []ls)x).1++[10]:=by
 rw[zpF]
 simp[zfD]
def zzL(w:World)(h:List Op3)(t:List UInt8)(W:World):Prop:=(∃v,Ses w.heap.size W w.heap.size v h)∧Lib.IsBuilder 34 5 w.heap.size(w.heap.size+1)(Lib.byteCells t)W
def zCb(w:World)(pre:List Ln)(W:World):Prop:=(zzL w(stL zbb [](pre.map(·.1)))(zfD zbb [](pre.map(·.1)))W∧(zfD zbb [](pre.map(·.1))=[]→W.heap[w.heap.size+1]? = some(.cells #[.pointer none,.slice none 0 0]34(0,0))))∧Below w.heap.size w W
theorem zxP(w:World)(B:Nat)(hB:w.heap.size≤B):OwnFrom B(zCb w):=by
 intro pre W W1 row⟨⟨⟨⟨v,hs⟩,hb⟩,hf⟩,hbel⟩hg hr
 have hr':∀r,row=some r→∃o:Obj,W.heap[r]? = some o∧∀cs T fr,o≠.cells cs T fr:=fun r e=>by
  obtain⟨_,o,h1,h2⟩:=hr r e
  exact⟨o,h1,fun cs T fr e=>by rw[e]at h2;cases h2⟩
 obtain⟨h1,h2⟩:=zh5 hb hg fun r e=>by obtain⟨o,h1,h2⟩:=hr' r e;exact⟨o,h1,fun cs fr=>h2 cs _ fr,fun cs fr=>h2 cs _ fr⟩
 exact⟨⟨⟨⟨v,ztN hs hg fun r e=>by obtain⟨o,h1,h2⟩:=hr' r e;exact⟨o,h1,fun cs fr=>h2 cs _ fr,fun cs fr=>h2 cs _ fr⟩⟩,h1⟩,fun e=>h2.trans(hf e)⟩,hbel.grown hg hbel.size fun k e=>Nat.le_trans hB(hr k e).1⟩
def zey(w W W1:World):Prop:=KeepsOthers W W1∧Below w.heap.size W W1
theorem zey.trans {w A B C:World}(h:zey w A B)(k:zey w B C):zey w A C:=⟨h.1.trans k.1,h.2.trans k.2⟩
theorem zAK {w W:World} {h:List Op3} {t:List UInt8}(x:Ln)(hJ:zzL w h t W)(hz:w.heap.size≤W.heap.size)(hsb:1<w.heap.size)(hc:(chk h).2=0)(hg:ziZ W) :
  Calls Tryz.prog 9 #[.pointer(some⟨w.heap.size,0,none⟩),zaV x.1]W fun e w1=>e=.returned(zaV(zbb h x.1).1)∧zzL w(zbb h x.1).2 t w1∧zey w W w1:=by
 obtain⟨⟨v,hs⟩,hb⟩:=hJ
 refine(zty x.1(Nat.le_trans x.2(by decide))hs hz hsb hc hg).mono ?_
 rintro e w1⟨rfl,hs1,hT⟩
 obtain⟨h1,-⟩:=zh5 hb(row:=some w.heap.size)⟨hT.os,hT.tape,hT.output,hT.size,fun k hk hne=>hT.block k hk fun e=>hne(by rw[e])⟩fun r e=>by
  cases e
  exact⟨_,hs.1,fun cs fr e=>(by injection e with _ e2;exact absurd e2(by decide)),fun cs fr e=>(by injection e with _ e2;exact absurd e2(by decide))⟩
 exact⟨rfl,⟨hs1,h1⟩,zr0 hT hs.1,hT.below(Nat.le_refl _)hz⟩
theorem zAe {w W:World} {h:List Op3} {t:List UInt8}(a:List UInt8)(hJ:zzL w h t W)(hz:w.heap.size≤W.heap.size)(hl:t.length+a.length≤140737488355328) :
  Calls Tryz.prog 8 #[.pointer(some⟨w.heap.size+1,0,none⟩),zaV a]W fun e w1=>(∃n,e=.returned(.tuple #[.int .i64 n,.nilIface]))∧zzL w h(t++a)w1∧zey w W w1:=by
 obtain⟨⟨v,hs⟩,hb⟩:=hJ
 refine(zgc w.heap.size(w.heap.size+1)(Lib.byteCells t)⟨a.toArray⟩W hb(by rw[Lib.byteCells_length];show t.length+a.toArray.size≤_;rw[List.size_toArray];exact hl)hz).mono ?_
 rintro e w1⟨rfl,hb1,hbel,hU⟩
 refine⟨⟨_,rfl⟩,⟨⟨v,zfS hs hU⟩,.inr ?_⟩,zeD hU hbel,hbel⟩
 rw[za1,←zfv]
 exact hb1
theorem zBh {w W:World} {h:List Op3} {t:List UInt8}(hJ:zzL w h t W)(hz:w.heap.size≤W.heap.size)(hl:t.length+1≤140737488355328) :
  Calls Tryz.prog 10 #[.pointer(some⟨w.heap.size+1,0,none⟩),.int .u8 10]W fun e w1=>e=.returned .nilIface∧zzL w h(t++[10])w1∧zey w W w1:=by
 obtain⟨⟨v,hs⟩,hb⟩:=hJ
 refine(zi9 w.heap.size(w.heap.size+1)(Lib.byteCells t)10 W hb(by rw[Lib.byteCells_length];exact hl)hz).mono ?_
 rintro e w1⟨rfl,hb1,hbel,hU⟩
 refine⟨rfl,⟨⟨v,zfS hs hU⟩,.inr ?_⟩,zeD hU hbel,hbel⟩
 rw[za1]
 exact hb1
theorem zzt {w W:World} {pre:List Ln}(hI:zCb w pre W):Calls Tryz.prog 11 #[.pointer(some⟨w.heap.size+1,0,none⟩)]W fun e w1=>e=.returned(zaV(zfD zbb [](pre.map(·.1))))∧Below w.heap.size W w1∧zcr W w1:=by
 by_cases h:zfD zbb [](pre.map(·.1))=[]
 ·rw[h]
  exact zhl _ _ _ _(hI.1.2 h)
 ·exact zgm _ _ _ _ hI.1.1.2 h
theorem zo3(n:Nat)(hn:1≤n)(Bs n₀:Nat)(s:List UInt8)(hs:s.length≤3000)(w:World)(hBs:Bs<w.heap.size)(hc:w.cell?⟨Bs,0,none⟩=some(zaV s)) :
  SeqStopsK Fence.wide n Tryz.prog 12 #[.pointer(some⟨Bs,0,none⟩)](fun x:Ln=>#[zaV x.1])(Below n₀)(fun ys=>ys.map(·.1)=zaF []s)(fun _=>True)(zaF []s).length w:=fun l J Jx W hW hJ _ hY h0 =>
 zwD n hn l Bs n₀ s hs J Jx(fun pre W h=>hJ pre W W.drew none h(zs9 W)(fun r e=>by cases e))hY W((hW.cell(p:=⟨Bs,0,none⟩)hBs).trans hc)h0
set_option maxRecDepth 100000 in
set_option maxHeartbeats 8000000 in
theorem zw1(s:List UInt8)(w:World)(hs:s.length≤3000)(hg:ziZ w) :
  Calls Tryz.prog 5 #[zaV s]w fun e w'=>e=.returned(zaV(zfD zbb [](zaF []s)))∧Below w.heap.size w w':=by
 have hL:=zj9 []s
 have HL:Hid((zaF []s).length≤3001):=by show _≤_;omega
 have hsz:(⟨s.toArray⟩:ByteArray).size=s.length:=by show s.toArray.size=_;rw[List.size_toArray]
 have hn:¬(3000:Int)<((⟨s.toArray⟩:ByteArray).size:Int):=by rw[hsz];omega
 have hsb:1<w.heap.size:=hg.et.lt
 have HG:=zak hg
 have HS:=zak hs
 have HSB:=zak hsb
 clear hL hsz hs hg hsb
 refine(callsIn_wide(n:=5)).1 ?_
 refine callsIn_of_wp_marks Tryz.func5 rfl trivial ?_ rfl
 simp only[Tryz.ntmps5,List.size_toArray,List.length_cons,List.length_nil,Nat.reduceAdd,Nat.reduceSub,Array.replicate_succ,Array.replicate_zero,List.push_toArray,List.append_toArray,List.nil_append,List.cons_append]
 gi_wp2_with(refine⟨trivial,?_⟩;gi_at_call 7;refine(callsIn_wide.2(zzj s _)).mono ?_;rintro e w1⟨rfl,rfl⟩)
 have hB0:Below w.heap.size w(((w.alloc(.cells #[.slice none 0 0]30)).alloc(.cells #[.pointer none,.slice none 0 0]34)).alloc(.cells #[zaV s]9)):=(((Below.refl _ w).alloc(Nat.le_refl _)_).alloc(by simp)_).alloc(by simp;omega)_
 have hs0:(((w.alloc(.cells #[.slice none 0 0]30)).alloc(.cells #[.pointer none,.slice none 0 0]34)).alloc(.cells #[zaV s]9)).heap[w.heap.size]? = some(.cells #[.slice none 0 0]30(0,0)) :=
  (Below.heap_alloc _ _ _(by simp;omega)).trans((Below.heap_alloc _ _ _(by simp)).trans(World.alloc_heap_new w _))
 have ht0:(((w.alloc(.cells #[.slice none 0 0]30)).alloc(.cells #[.pointer none,.slice none 0 0]34)).alloc(.cells #[zaV s]9)).heap[w.heap.size+1]? = some(.cells #[.pointer none,.slice none 0 0]34(0,0)):=by
  refine(Below.heap_alloc _ _ _(by simp)).trans ?_
  have:=World.alloc_heap_new(w.alloc(.cells #[.slice none 0 0]30))(.cells #[.pointer none,.slice none 0 0]34)
  rwa [World.size_alloc]at this
 have hI0:zCb w [](((w.alloc(.cells #[.slice none 0 0]30)).alloc(.cells #[.pointer none,.slice none 0 0]34)).alloc(.cells #[zaV s]9)) :=
  ⟨⟨⟨⟨_,hs0,World.ownsRow_nil _ _ _ _⟩,.inl⟨by omega,_,ht0,World.ownsRow_nil _ _ _ _,by simp[Value.ownBlock]⟩⟩,fun _=>ht0⟩,hB0⟩
 refine wpIn_rangeFunc_ownF rfl(by omega)(gf:=12)(lb:=#[.pointer(some⟨w.heap.size+1+1,0,none⟩)])rfl trivial(enters_of Tryz.func12(by kernel_rfl)rfl)
  (zo3 _(by omega)(w.heap.size+1+1)w.heap.size s HS.out _(by simp)(by rw[World.cell?_alloc_at _ _ _ _(by simp)];rfl))belowK_t(belowK_b(by simp;omega))(Below.refl _ _)(fun _=>rfl)
  (zCb w)(fun _ _ _=>False)(zxP w _(by simp;omega))(fun _ _ _ _ _ hs _ _=>hs)hI0
  (fun x=>{ tmps:=#[zaV s,undef,.string⟨#[]⟩,.pointer(some⟨w.heap.size,0,none⟩),.pointer(some⟨w.heap.size+1,0,none⟩),zaV x.1,zaV s,.int .i64(s.length:Int),.bool(decide((3000:Int)<(s.length:Int))),zaV s,.func(.func 12) #[] #[.pointer(some⟨w.heap.size+1+1,0,none⟩)],zaV x.1,undef,undef,undef,undef,undef],defers:=[] }) ?assign ?body ?done ?stop
 case assign =>
  intro l x W K hK
  gi_wp2
  exact hK
 case body =>
  rintro l pre x W hI hlt
  have hB:=hI.2
  have hc:=zx8(pre.map(·.1)) []rfl
  have HA:=zak(zAK x hI.1.1 hB.size HSB.out hc(HG.out.below hB))
  have hlen:=zym(pre.map(·.1))
  rw[List.length_map]at hlen
  have hl3:=HL.out
  have hll:=zkD hc x.1
  have HLB:Hid((zfD zbb [](pre.map(·.1))).length+(zbb(stL zbb [](pre.map(·.1)))x.1).1.length+1≤140737488355328):=by show _≤_;omega
  have HF:Hid(∀W1,zzL w(zbb(stL zbb [](pre.map(·.1)))x.1).2(zfD zbb [](pre.map(·.1))++(zbb(stL zbb [](pre.map(·.1)))x.1).1++[10])W1→zey w W W1→KeepsOthers W W1∧Below w.heap.size W W1∧zCb w(pre++[x])W1):=fun W1 hJ hk=>by
   refine⟨hk.1,hk.2,⟨?_,fun e=>?_⟩,hB.trans hk.2⟩
   ·rw[List.map_append,zAG,List.map_cons,List.map_nil,zp6]
    exact hJ
   ·rw[List.map_append,List.map_cons,List.map_nil,zp6]at e
    simp at e
  have HZ:=zak hB.size
  obtain⟨r,hr⟩:∃r,zbb(stL zbb [](pre.map(·.1)))x.1=r:=⟨_,rfl⟩
  obtain⟨t,ht⟩:∃t,zfD zbb [](pre.map(·.1))=t:=⟨_,rfl⟩
  rw[hr,ht]at HA HF HLB
  clear hI hlt hB hc hlen hl3 hll hr ht
  gi_wp2_with(first|(refine⟨trivial,?_⟩;gi_at_call 9;refine(CallsIn.inRound l(callsIn_wide.2 HA.out)).mono ?_;rintro e w1⟨rfl,hJ1,hk1⟩;have HB:=zak(zAe r.1 hJ1(Nat.le_trans HZ.out hk1.2.size)(by have:=HLB.out;omega));have HK1:=zak hk1;clear hJ1 hk1)|(refine⟨trivial,?_⟩;gi_at_call 8;refine(CallsIn.inRound l(callsIn_wide.2 HB.out)).mono ?_;rintro e w2⟨⟨n,rfl⟩,hJ2,hk2⟩;have HK2:=zak(HK1.out.trans hk2);have HC:=zak(zBh hJ2(Nat.le_trans HZ.out HK2.out.2.size)(by have:=HLB.out;rw[List.length_append];omega));clear hJ2 hk2)|(refine⟨trivial,?_⟩;gi_at_call 10;refine(CallsIn.inRound l(callsIn_wide.2 HC.out)).mono ?_;rintro e w3⟨rfl,hJ3,hk3⟩))
  exact HF.out _ hJ3(HK2.out.trans hk3)
 case done =>
  rintro D ys W hD hS hI hK
  have HT:=zak(zzt hI)
  rw[hS]at HT
  have HB:=zak hI.2
  have hz0:w.heap.size≤D:=by simp at hD;omega
  clear hI hS
  gi_wp2_with(refine⟨trivial,?_⟩;gi_at_call 11;refine(callsIn_wide.2 HT.out).mono ?_;rintro e w1⟨rfl,hb1,hU1⟩)
  have hK1:w1.heap[D]? = some(.deferred(some [])):=hU1 D _ hK(fun _ _ e=>by cases e)(fun _ _ e=>by cases e)
  refine⟨by simp,.inl⟨_,_,rfl,run_takeDeferred hK1,?_⟩⟩
  exact⟨_,results_tmp rfl _ _ _,rfl,(HB.out.trans hb1).trans(belowK_b(w:=w)(Nat.le_refl _)w1 D _ _ hz0 hK1 rfl rfl)⟩
 case stop =>
  rintro D c pre W _ _ h _
  exact h.elim
set_option maxHeartbeats 2000000 in
theorem zxg(s:ByteArray)(w:World)(hs:3000<s.size):Calls Tryz.prog 5 #[.string s]w fun e w'=>e=.returned(.string zig)∧Below w.heap.size w w':=by
 have h:(3000:Int)<(s.size:Int):=by omega
 clear hs
 go_enter Tryz.func5,Tryz.ntmps5
 go_wp2_with fail
 go_ret
 exact⟨rfl,Below.refl _ _⟩
theorem zDh:zCp(zp8 zbb []):=fun s w hs hg=>by
 unfold zp8
 by_cases h:3000<s.size
 ·rw[if_pos h]
  exact zxg s w h
 ·rw[if_neg h]
  have e:s=⟨s.data.toList.toArray⟩:=by cases s;simp
  have h2:=zw1 s.data.toList w(by rw[zdy];omega)hg
  unfold zaV at h2
  rw[←e]at h2
  exact h2
end Go.Proofs.YthlhgiihngcobaaGreatDoor
