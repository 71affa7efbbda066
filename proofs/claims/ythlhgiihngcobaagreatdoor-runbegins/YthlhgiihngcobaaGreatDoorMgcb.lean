/-
  PROVED HERE: what each line that asks is answered by, chapter by chapter; package run's session answers a line that asks; errors.As at a fault of package run that embeds another error, at the target that package run asks with; package run's fault tells its name; package run's session answers a line as chapter 20 says (lineF), and keeps its history so; package run's Run answers a text as chapter 20 says, line by line (runB lineF []).
  Conditions: none but those that each theorem's own premises say.
-/
import Derived.Test.YthlhgiihngcobaaGreatDoorMgau
import Derived.Test.YthlhgiihngcobaaGreatDoorMgav
import Derived.Test.YthlhgiihngcobaaGreatDoorMgay
import Derived.Test.YthlhgiihngcobaaGreatDoorMgbb
import Derived.Test.YthlhgiihngcobaaGreatDoorMgbe
import Derived.Test.YthlhgiihngcobaaGreatDoorMgbg
import Derived.Test.YthlhgiihngcobaaGreatDoorMgbh
import Derived.Test.YthlhgiihngcobaaGreatDoorMgbr
import Derived.Test.YthlhgiihngcobaaGreatDoorMgbs
import Derived.Test.YthlhgiihngcobaaGreatDoorMgbv
import Derived.Test.YthlhgiihngcobaaGreatDoorMgbx
import Derived.Test.YthlhgiihngcobaaGreatDoorMgbz
import Derived.Test.YthlhgiihngcobaaGreatDoorMgca
import Derived.BigQuiet
import Derived.Test.YthlhgiihngcobaaGreatDoorMgaf
import Derived.Test.YthlhgiihngcobaaGreatDoorMgas
import Derived.Test.YthlhgiihngcobaaGreatDoorMgat
set_option maxHeartbeats 32000000
set_option maxRecDepth 100000
namespace Go.Proofs.YthlhgiihngcobaaGreatDoor
open Go.RowKit
def zd0(w:World)(x y:Value)(t:List UInt8):Prop:=(x=zaR t/\y=.nilIface)\/(∃s n,x=.string s/\y=.iface 80 (.int .i64 n)/\(1<=n/\n<=8)/\t=zeV n)\/(∃s a,x=.string s/\y=.iface 337 (.pointer (some a))/\w.cell? a=some (.string ⟨#[98,97,100]⟩)/\t=zAL)
def zr7(F:FuncId)(vs:Array Value)(w:World)(t:List UInt8):Prop:=Calls Tryz.prog F vs w fun e w'=>∃x y,e=.returned (.tuple #[x,y])/\zd0 w' x y t/\Below w.heap.size w w'
def Two(F1:FuncId)(vs:Array Value)(F2:FuncId)(w:World)(t:List UInt8):Prop:=Calls Tryz.prog F1 vs w fun e w1=>∃v1 v2,e=.returned (.tuple #[v1,v2])/\zr7 F2 #[v1,v2] w1 t/\Below w.heap.size w w1
def zp7(F1:FuncId)(vs:Array Value)(F2:FuncId)(w:World)(t:List UInt8):Prop:=Calls Tryz.prog F1 vs w fun e w1=>∃v1 v2 v3,e=.returned (.tuple #[v1,v2,v3])/\zr7 F2 #[v1,v2,v3] w1 t/\Below w.heap.size w w1
theorem chkFrom_code:∀(l pre:List Op3),(chkFrom pre l).2=0\/(chkFrom pre l).2=1\/(chkFrom pre l).2=6:=by
 intro l
 induction l with
 | nil=>intro pre;exact .inl rfl
 | cons a r ih =>
   intro pre;cases h:isOpB a with
   | false=>rw[zdU pre r h];exact .inr (.inl rfl)
   | true =>
     cases h2:zaz pre a.1 with
     | true=>rw[zek r h h2];exact .inr (.inr rfl)
     | false=>rw[zgD r h h2];exact ih _
theorem zoR(l:List Op3)(h:(chk l).2≠0):1<=(chk l).2/\(chk l).2<=8:=by
 unfold chk at h ⊢;split
 ·exact⟨by decide,by decide⟩
 ·rename_i h1;rw[if_neg h1]at h;rcases chkFrom_code l []with e | e | e
  ·exact absurd e h
  ·rw[e];exact⟨by decide,by decide⟩
  ·rw[e];exact⟨by decide,by decide⟩
theorem try_mem(ds:List Int)(p:List Int->Bool):∀(f:Nat) (b r:List Int),tryO ds p f b=some r->∀x∈r,x∈b\/x∈ds:=by
 intro f
 induction f with
 | zero =>
   intro b r h x hx;unfold tryO at h;split at h
   ·rw[<-Option.some.inj h]at hx;exact .inl hx
   ·cases h
 | succ f ih =>
   intro b r h x hx;unfold tryO at h;obtain⟨t,htd,ht⟩:=List.exists_of_findSome?_eq_some h;split at ht
   ·cases ht
   ·rcases ih _ _ ht x hx with h1 | h1
    ·rcases List.mem_append.1 h1 with h2 | h2
     ·exact .inl h2
     ·rw[List.mem_singleton.1 h2];exact .inr htd
    ·exact .inr h1
theorem zsZ{h:List Op3}{o:List Int}(hs:ziV (doneL h)=some o):∀d∈o,1<=d/\d<=6:=fun d hd=>by
 rcases try_mem _ _ _ _ _ hs d hd with h1 | h1
 ·cases h1
 ·have:=zbh.1 h1;exact⟨this.1,this.2.1⟩
theorem zw0(kind:Int)(okF:Kst->Int->Dl->Bool)(byN:Bool){h:List Op3}(hc:(chk h).2=0):∀x∈(outU kind okF byN h).1.1,1<=x/\x<=6:=fun x hx=>by
 rw[zkz hc]at hx;have hd:∀y∈(runK kind okF h h.length).done,1<=y/\y<=6:=fun y hy=>by have:=(ziy kind okF hc h.length (Nat.le_refl _)).comm y hy;exact⟨this.2.1,this.2.2.1⟩
 have hx':x∈zn6 byN (runK kind okF h h.length).done:=hx;unfold zn6 at hx';split at hx'
 ·unfold zku at hx';have:=(List.mem_filter.1 hx').1;simp at this;omega
 ·exact hd x hx'
theorem zyT{o:List Int}{v:Value}{w:World}(h:zaf w v o)(hl:o.length<=1000)(hx:∀d∈o,0<=d/\d<10000000)(hp:zd2 w):zr7 21 #[v,.nilIface] w (zg7 (o.map Lib.itoa)) :=(zgm zu2 zAb o v .nilIface w h hl hx hp).mono fun _ _ ⟨he,hb⟩=>⟨_,_,he,.inl ⟨rfl,rfl⟩,hb⟩
theorem zup{o:List Int}{v:Value}{w:World}(h:zaf w v o)(hl:o.length<=6)(hx:∀d∈o,1<=d/\d<=6)(hp:zd2 w):zr7 21 #[v,.nilIface] w (zsk o):=by rw[zmb hx];exact zyT h (by omega) (fun d hd=>by have:=hx d hd;omega) hp
theorem zti(n:Int)(w:World)(hn:1<=n/\n<=8)(hp:zd2 w):zr7 21 #[.slice none 0 0,.iface 80 (.int .i64 n)] w (zeV n) :=(zgm zu2 zAb [] (.slice none 0 0) (.iface 80 (.int .i64 n)) w (za6 w) (by simp) (fun d hd=>by cases hd) hp).mono fun _ _ ⟨he,hb⟩=>⟨_,_,he,.inr (.inl ⟨_,n,rfl,rfl,hn,rfl⟩),hb⟩
theorem zvW{h:List Op3}{v:Value}{w:World}(hv:zai w v h)(hc:(chk h).2=0)(hp:zd2 w):Two 22 #[v] 21 w (zjA (zcF (doneL h)) 8):=by
 refine(zAv h v w hv hc).mono ?_;rintro e w1 ⟨(⟨o,v',hs,rfl,hI⟩ | ⟨hs,rfl⟩),hb⟩
 ·have h1:=(ziL (zmV hc) hs).1;exact⟨_,_,rfl,by rw[hs];exact zup hI (zh1 h1) (fun d hd=>zsa h1 hd) (zb3 hp hb),hb⟩
 ·exact⟨_,_,rfl,by rw[hs];exact zti 8 w1 (by decide) (zb3 hp hb),hb⟩
theorem zxD{h:List Op3}{v:Value}{w:World}(hv:zai w v h)(hc:(chk h).2=0)(hp:zd2 w):Two 23 #[v] 21 w (zjA (ziV (doneL h)) 5):=by
 refine(zqN h v w hv hc).mono ?_;rintro e w1 ⟨(⟨o,v',hs,rfl,hI⟩ | ⟨hs,rfl⟩),hb⟩
 ·exact⟨_,_,rfl,by rw[hs];exact zup hI (zpM hs) (zsZ hs) (zb3 hp hb),hb⟩
 ·exact⟨_,_,rfl,by rw[hs];exact zti 5 w1 (by decide) (zb3 hp hb),hb⟩
theorem zsm{h:List Op3}{ad:Option Addr}{cap:Nat}{w:World}(hv:zai w (.slice ad h.length cap) h)(hcap:h.length<=cap)(hc:(chk h).2=0):Two 25 #[.slice ad h.length cap] 24 w (ziM [(zyY,zxd h),(zyV,zw5 h),(zyJ,zxh h),(zyA,zyh h)]):=by
 refine(zBq h ad cap w hv hcap).mono ?_;rintro e w1 ⟨rfl,hb⟩;refine⟨_,_,rfl,?_,hb⟩;rw[hc];refine(zmN zu2 (zjt h) .nilIface w1).mono ?_;rintro e w2 ⟨rfl,hb2⟩;refine⟨_,_,rfl,.inl ⟨?_,rfl⟩,hb2⟩;have e1:zjt h=(zxd h,zw5 h,zxh h,zyh h):=by unfold zjt;rw[if_neg (by simpa using hc)]
 rw[e1,zjs (by simp[zyY,zyV,zyJ,zyA])];rfl
theorem zyq{h:List Op3}{ad:Option Addr}{cap:Nat}{w:World}(hv:zai w (.slice ad h.length cap) h)(hcap:h.length<=cap)(hc:(chk h).2=0):Two 27 #[.slice ad h.length cap] 26 w (ziM [(dwW,(zib h).1.1),(drW,(zib h).1.2.1),(unW,(zib h).1.2.2.1),(loW,(zib h).1.2.2.2)]):=by
 refine(zzx h ad cap w hv hcap).mono ?_;rintro e w1 ⟨rfl,hb⟩;refine⟨_,_,rfl,?_,hb⟩;rw[hc];refine(zoL zu2 (zlt h) .nilIface w1).mono ?_;rintro e w2 ⟨rfl,hb2⟩;refine⟨_,_,rfl,.inl ⟨?_,rfl⟩,hb2⟩;have e1:zlt h=(zib h).1:=by unfold zlt;rw[if_neg (by simpa using hc)]
 rw[e1,zjs (by simp[dwW,drW,unW,loW])];rfl
theorem zrr{h:List Op3}{v:Value}{w:World}(hv:zai w v h)(hc:(chk h).2=0)(hp:zd2 w):Two 28 #[v] 21 w (zq8 (valsL (doneL h))):=by
 refine(zuJ h v w hv hc).mono ?_;rintro e w1 ⟨v',rfl,hI,hb⟩;have hx:∀d∈valsL (doneL h),0<=d/\d<10000000:=fun d hd=>by obtain⟨j,_,rfl⟩:=List.mem_map.1 hd;have:=zdx (doneL h) (doneL h).length ((j:Int)+1);omega
 refine⟨_,_,rfl,?_,hb⟩;rw[zuz (by unfold valsL;simp) fun d hd=>(hx d hd).1];exact zyT hI (by unfold valsL;simp) hx (zb3 hp hb)
theorem zo6{l:List Op3}{v v2:Value}{w:World}(h:zai w v l):zr7 29 #[v,v2,.nilIface] w (zg3 l):=by
 refine(zA5 l v v2 w h).mono ?_;rintro e w1 ⟨rfl,hb⟩;refine⟨_,_,rfl,?_,hb⟩;unfold zg3;by_cases hc:(chk l).2=0
 ·have hn:¬(chk l).2≠0:=fun h=>h hc;rw[if_pos hc,if_neg hn,hc];exact .inl ⟨rfl,rfl⟩
 ·rw[if_neg hc,if_pos hc,zij hc];exact .inr (.inl ⟨_,_,rfl,rfl,zoR l hc,rfl⟩)
theorem zem{h:List Op3}{v:Value}{w:World}(way:Int)(hw:0<=way/\way<=2)(hv:zai w v h)(hc:(chk h).2=0):zp7 30 #[v,.int .i64 way] 29 w (zg3 (zbe h way).1.1):=by
 refine(zzD h v way w hv).mono ?_;rintro e w1 ⟨v1,v2,rfl,hI,-,hb⟩;have e0:(zbe h way).2=0:=by unfold zbe;rw[if_neg (by simpa using hc),if_neg (by omega)]
 exact⟨_,_,_,rfl,by rw[e0];exact zo6 hI,hb⟩
theorem zni{h:List Op3}{v:Value}{w:World}(hv:zai w v h)(hc:(chk h).2=0):zp7 31 #[v,.bool false] 29 w (zg3 (zde false h).1.1):=by refine(zA1 h v false w hv).mono ?_;rintro e w1 ⟨v1,v2,rfl,hI,-,hb⟩;exact⟨_,_,_,rfl,by rw[show(zde false h).2=0 by rw[zhN hc]];exact zo6 hI,hb⟩
theorem zhr{F:FuncId}{kind:Int}{okF:Kst->Int->Dl->Bool}{byN:Bool}(hR:zoC F kind okF byN){h:List Op3}{v:Value}{w:World}(hv:zai w v h)(hc:(chk h).2=0)(hp:zd2 w):Two F #[v] 32 w (zsk (outU kind okF byN h).1.1):=by refine(hR h v w hv).mono ?_;rintro e w1 ⟨a1,a2,a3,rfl,hI,-,-,-,hb⟩;have hx:=zw0 kind okF byN hc;refine⟨_,_,rfl,?_,hb⟩;rw[show(outU kind okF byN h).2=0 by rw[zkz hc],zmb hx];exact(zxw zu2 zAb _ a1 a2 a3 .nilIface w1 hI (by have:=(zps kind okF byN h).1;omega) (fun d hd=>by have:=hx d hd;omega) (zb3 hp hb)).mono fun _ _ ⟨he,hb⟩=>⟨_,_,he,.inl ⟨rfl,rfl⟩,hb⟩
end Go.Proofs.YthlhgiihngcobaaGreatDoor
namespace Go.Proofs.YthlhgiihngcobaaGreatDoor
open Go.RowKit
theorem zsI(l:List UInt8)(w:World):Calls Tryz.prog 19 #[zaR l,.string ⟨#[104,105,115,116,111,114,121,32]⟩] w fun e w'=>e=.returned (.tuple #[zaR (if l.take 8=zfe then l.drop 8 else l),.bool (decide (l.take 8=zfe))])/\w'=w:=by
 have e1:Lib.hasPrefix l zfe=decide (l.take 8=zfe):=by unfold Lib.hasPrefix;rw[Bool.eq_iff_iff,List.isPrefixOf_iff_prefix,decide_eq_true_iff,List.prefix_iff_eq_take];exact⟨fun h=>h.symm,fun h=>h.symm⟩
 have e2:Lib.trimPrefix l zfe=if l.take 8=zfe then l.drop 8 else l:=by
  unfold Lib.trimPrefix;rw[e1];by_cases h:l.take 8=zfe
  ·rw[decide_eq_true h,if_pos h];rfl
  ·rw[decide_eq_false h,if_neg h];rfl
 have h:=Any.strings_CutPrefix Tryz.lays103 ⟨l.toArray⟩ ⟨#[104,105,115,116,111,114,121,32]⟩ w;refine h.mono ?_;rintro e w' ⟨rfl,hw⟩;refine⟨?_,hw⟩;show Ending.returned (.tuple #[zaR (Lib.trimPrefix l zfe),.bool (Lib.hasPrefix l zfe)])=_;rw[e1,e2]
theorem za8(l:List UInt8)(w:World)(h:l.take 8≠zfe):Calls Tryz.prog 19 #[zaR l,.string ⟨#[104,105,115,116,111,114,121,32]⟩] w fun e w'=>e=.returned (.tuple #[zaR l,.bool false])/\w'=w:=by refine(zsI l w).mono ?_;rintro e w' ⟨rfl,hw⟩;exact⟨by rw[if_neg h,decide_eq_false h],hw⟩
def zb6(w w0:World)(t:List UInt8)(e:Ending):Prop:=∃x y,e=.returned (.tuple #[x,y])/\zd0 w x y t/\Below w0.heap.size w0 w
theorem zxx{sb:Nat}{v:Value}{w:World}{t:List UInt8}(hv:w.cell? ⟨sb,0,none⟩=some v)(h2:Two 22 #[v] 21 w t):Calls Tryz.prog 15 #[.pointer (some ⟨sb,0,none⟩),zaR zjT] w fun e w'=>zb6 w' w t e:=by have H2:=zaj h2;have HC:Hid (∀W,Calls Tryz.prog 19 #[.string ⟨#[111,114,100,101,114]⟩,.string ⟨#[104,105,115,116,111,114,121,32]⟩] W fun e w'=>e=.returned (.tuple #[.string ⟨#[111,114,100,101,114]⟩,.bool false])/\w'=W):=fun W=>za8 zjT W (by decide);have HP:Hid (∀(W:World) (x y:Value),zd0 W x y t->Below w.heap.size w W->zb6 W w t (.returned (.tuple #[x,y]))):=fun W x y a b=>⟨x,y,rfl,a,b⟩;clear h2;show Calls _ _ #[.pointer (some ⟨sb,0,none⟩),.string ⟨#[111,114,100,101,114]⟩] w _;go_enter Tryz.func15,Tryz.ntmps15;go_wp2_with (first | (go_at_call 19;refine(HC.out _).mono ?_;rintro e w ⟨rfl,rfl⟩) | (go_at_call 22;refine H2.out.mono ?_;rintro e w1 ⟨v1,v2,rfl,hT,hb1⟩) | (go_at_call 21;refine hT.mono ?_;rintro e w2 ⟨x,y,rfl,hE,hb2⟩;have HE:=zaj hE;have HB2:Hid (Below w.heap.size w w2):=hb1.trans (hb2.mono hb1.size);clear hE hb2));go_ret2;exact HP.out _ _ _ HE.out HB2.out
theorem zzT{sb:Nat}{v:Value}{w:World}{t:List UInt8}(hv:w.cell? ⟨sb,0,none⟩=some v)(h2:Two 23 #[v] 21 w t):Calls Tryz.prog 15 #[.pointer (some ⟨sb,0,none⟩),zaR zrx] w fun e w'=>zb6 w' w t e:=by have H2:=zaj h2;have HC:Hid (∀W,Calls Tryz.prog 19 #[.string ⟨#[118,105,101,119]⟩,.string ⟨#[104,105,115,116,111,114,121,32]⟩] W fun e w'=>e=.returned (.tuple #[.string ⟨#[118,105,101,119]⟩,.bool false])/\w'=W):=fun W=>za8 zrx W (by decide);have HP:Hid (∀(W:World) (x y:Value),zd0 W x y t->Below w.heap.size w W->zb6 W w t (.returned (.tuple #[x,y]))):=fun W x y a b=>⟨x,y,rfl,a,b⟩;clear h2;show Calls _ _ #[.pointer (some ⟨sb,0,none⟩),.string ⟨#[118,105,101,119]⟩] w _;go_enter Tryz.func15,Tryz.ntmps15;go_wp2_with (first | (go_at_call 19;refine(HC.out _).mono ?_;rintro e w ⟨rfl,rfl⟩) | (go_at_call 23;refine H2.out.mono ?_;rintro e w1 ⟨v1,v2,rfl,hT,hb1⟩) | (go_at_call 21;refine hT.mono ?_;rintro e w2 ⟨x,y,rfl,hE,hb2⟩;have HE:=zaj hE;have HB2:Hid (Below w.heap.size w w2):=hb1.trans (hb2.mono hb1.size);clear hE hb2));go_ret2;exact HP.out _ _ _ HE.out HB2.out
theorem zxb{sb:Nat}{v:Value}{w:World}{t:List UInt8}(hv:w.cell? ⟨sb,0,none⟩=some v)(h2:Two 25 #[v] 24 w t):Calls Tryz.prog 15 #[.pointer (some ⟨sb,0,none⟩),zaR zjx] w fun e w'=>zb6 w' w t e:=by have H2:=zaj h2;have HC:Hid (∀W,Calls Tryz.prog 19 #[.string ⟨#[102,97,99,101,115]⟩,.string ⟨#[104,105,115,116,111,114,121,32]⟩] W fun e w'=>e=.returned (.tuple #[.string ⟨#[102,97,99,101,115]⟩,.bool false])/\w'=W):=fun W=>za8 zjx W (by decide);have HP:Hid (∀(W:World) (x y:Value),zd0 W x y t->Below w.heap.size w W->zb6 W w t (.returned (.tuple #[x,y]))):=fun W x y a b=>⟨x,y,rfl,a,b⟩;clear h2;show Calls _ _ #[.pointer (some ⟨sb,0,none⟩),.string ⟨#[102,97,99,101,115]⟩] w _;go_enter Tryz.func15,Tryz.ntmps15;go_wp2_with (first | (go_at_call 19;refine(HC.out _).mono ?_;rintro e w ⟨rfl,rfl⟩) | (go_at_call 25;refine H2.out.mono ?_;rintro e w1 ⟨v1,v2,rfl,hT,hb1⟩) | (go_at_call 24;refine hT.mono ?_;rintro e w2 ⟨x,y,rfl,hE,hb2⟩;have HE:=zaj hE;have HB2:Hid (Below w.heap.size w w2):=hb1.trans (hb2.mono hb1.size);clear hE hb2));go_ret2;exact HP.out _ _ _ HE.out HB2.out
theorem zy2{sb:Nat}{v:Value}{w:World}{t:List UInt8}(hv:w.cell? ⟨sb,0,none⟩=some v)(h2:Two 27 #[v] 26 w t):Calls Tryz.prog 15 #[.pointer (some ⟨sb,0,none⟩),zaR zrP] w fun e w'=>zb6 w' w t e:=by have H2:=zaj h2;have HC:Hid (∀W,Calls Tryz.prog 19 #[.string ⟨#[105,108,108,115]⟩,.string ⟨#[104,105,115,116,111,114,121,32]⟩] W fun e w'=>e=.returned (.tuple #[.string ⟨#[105,108,108,115]⟩,.bool false])/\w'=W):=fun W=>za8 zrP W (by decide);have HP:Hid (∀(W:World) (x y:Value),zd0 W x y t->Below w.heap.size w W->zb6 W w t (.returned (.tuple #[x,y]))):=fun W x y a b=>⟨x,y,rfl,a,b⟩;clear h2;show Calls _ _ #[.pointer (some ⟨sb,0,none⟩),.string ⟨#[105,108,108,115]⟩] w _;go_enter Tryz.func15,Tryz.ntmps15;go_wp2_with (first | (go_at_call 19;refine(HC.out _).mono ?_;rintro e w ⟨rfl,rfl⟩) | (go_at_call 27;refine H2.out.mono ?_;rintro e w1 ⟨v1,v2,rfl,hT,hb1⟩) | (go_at_call 26;refine hT.mono ?_;rintro e w2 ⟨x,y,rfl,hE,hb2⟩;have HE:=zaj hE;have HB2:Hid (Below w.heap.size w w2):=hb1.trans (hb2.mono hb1.size);clear hE hb2));go_ret2;exact HP.out _ _ _ HE.out HB2.out
theorem zv8{sb:Nat}{v:Value}{w:World}{t:List UInt8}(hv:w.cell? ⟨sb,0,none⟩=some v)(h2:Two 28 #[v] 21 w t):Calls Tryz.prog 15 #[.pointer (some ⟨sb,0,none⟩),zaR zgG] w fun e w'=>zb6 w' w t e:=by have H2:=zaj h2;have HC:Hid (∀W,Calls Tryz.prog 19 #[.string ⟨#[118,97,108,117,101,115]⟩,.string ⟨#[104,105,115,116,111,114,121,32]⟩] W fun e w'=>e=.returned (.tuple #[.string ⟨#[118,97,108,117,101,115]⟩,.bool false])/\w'=W):=fun W=>za8 zgG W (by decide);have HP:Hid (∀(W:World) (x y:Value),zd0 W x y t->Below w.heap.size w W->zb6 W w t (.returned (.tuple #[x,y]))):=fun W x y a b=>⟨x,y,rfl,a,b⟩;clear h2;show Calls _ _ #[.pointer (some ⟨sb,0,none⟩),.string ⟨#[118,97,108,117,101,115]⟩] w _;go_enter Tryz.func15,Tryz.ntmps15;go_wp2_with (first | (go_at_call 19;refine(HC.out _).mono ?_;rintro e w ⟨rfl,rfl⟩) | (go_at_call 28;refine H2.out.mono ?_;rintro e w1 ⟨v1,v2,rfl,hT,hb1⟩) | (go_at_call 21;refine hT.mono ?_;rintro e w2 ⟨x,y,rfl,hE,hb2⟩;have HE:=zaj hE;have HB2:Hid (Below w.heap.size w w2):=hb1.trans (hb2.mono hb1.size);clear hE hb2));go_ret2;exact HP.out _ _ _ HE.out HB2.out
theorem zt9{sb:Nat}{v:Value}{w:World}{t:List UInt8}(hv:w.cell? ⟨sb,0,none⟩=some v)(h2:zp7 30 #[v,.int .i64 0] 29 w t):Calls Tryz.prog 15 #[.pointer (some ⟨sb,0,none⟩),zaR zgB] w fun e w'=>zb6 w' w t e:=by have H2:=zaj h2;have HC:Hid (∀W,Calls Tryz.prog 19 #[.string ⟨#[100,101,116,101,99,116]⟩,.string ⟨#[104,105,115,116,111,114,121,32]⟩] W fun e w'=>e=.returned (.tuple #[.string ⟨#[100,101,116,101,99,116]⟩,.bool false])/\w'=W):=fun W=>za8 zgB W (by decide);have HP:Hid (∀(W:World) (x y:Value),zd0 W x y t->Below w.heap.size w W->zb6 W w t (.returned (.tuple #[x,y]))):=fun W x y a b=>⟨x,y,rfl,a,b⟩;clear h2;show Calls _ _ #[.pointer (some ⟨sb,0,none⟩),.string ⟨#[100,101,116,101,99,116]⟩] w _;go_enter Tryz.func15,Tryz.ntmps15;go_wp2_with (first | (go_at_call 19;refine(HC.out _).mono ?_;rintro e w ⟨rfl,rfl⟩) | (go_at_call 30;refine H2.out.mono ?_;rintro e w1 ⟨v1,v2,v3,rfl,hT,hb1⟩) | (go_at_call 29;refine hT.mono ?_;rintro e w2 ⟨x,y,rfl,hE,hb2⟩;have HE:=zaj hE;have HB2:Hid (Below w.heap.size w w2):=hb1.trans (hb2.mono hb1.size);clear hE hb2));go_ret2;exact HP.out _ _ _ HE.out HB2.out
theorem zrm{sb:Nat}{v:Value}{w:World}{t:List UInt8}(hv:w.cell? ⟨sb,0,none⟩=some v)(h2:zp7 30 #[v,.int .i64 1] 29 w t):Calls Tryz.prog 15 #[.pointer (some ⟨sb,0,none⟩),zaR zq1] w fun e w'=>zb6 w' w t e:=by have H2:=zaj h2;have HC:Hid (∀W,Calls Tryz.prog 19 #[.string ⟨#[119,97,105,116,100,105,101]⟩,.string ⟨#[104,105,115,116,111,114,121,32]⟩] W fun e w'=>e=.returned (.tuple #[.string ⟨#[119,97,105,116,100,105,101]⟩,.bool false])/\w'=W):=fun W=>za8 zq1 W (by decide);have HP:Hid (∀(W:World) (x y:Value),zd0 W x y t->Below w.heap.size w W->zb6 W w t (.returned (.tuple #[x,y]))):=fun W x y a b=>⟨x,y,rfl,a,b⟩;clear h2;show Calls _ _ #[.pointer (some ⟨sb,0,none⟩),.string ⟨#[119,97,105,116,100,105,101]⟩] w _;go_enter Tryz.func15,Tryz.ntmps15;go_wp2_with (first | (go_at_call 19;refine(HC.out _).mono ?_;rintro e w ⟨rfl,rfl⟩) | (go_at_call 30;refine H2.out.mono ?_;rintro e w1 ⟨v1,v2,v3,rfl,hT,hb1⟩) | (go_at_call 29;refine hT.mono ?_;rintro e w2 ⟨x,y,rfl,hE,hb2⟩;have HE:=zaj hE;have HB2:Hid (Below w.heap.size w w2):=hb1.trans (hb2.mono hb1.size);clear hE hb2));go_ret2;exact HP.out _ _ _ HE.out HB2.out
theorem zlD{sb:Nat}{v:Value}{w:World}{t:List UInt8}(hv:w.cell? ⟨sb,0,none⟩=some v)(h2:zp7 30 #[v,.int .i64 2] 29 w t):Calls Tryz.prog 15 #[.pointer (some ⟨sb,0,none⟩),zaR zjf] w fun e w'=>zb6 w' w t e:=by have H2:=zaj h2;have HC:Hid (∀W,Calls Tryz.prog 19 #[.string ⟨#[119,111,117,110,100,119,97,105,116]⟩,.string ⟨#[104,105,115,116,111,114,121,32]⟩] W fun e w'=>e=.returned (.tuple #[.string ⟨#[119,111,117,110,100,119,97,105,116]⟩,.bool false])/\w'=W):=fun W=>za8 zjf W (by decide);have HP:Hid (∀(W:World) (x y:Value),zd0 W x y t->Below w.heap.size w W->zb6 W w t (.returned (.tuple #[x,y]))):=fun W x y a b=>⟨x,y,rfl,a,b⟩;clear h2;show Calls _ _ #[.pointer (some ⟨sb,0,none⟩),.string ⟨#[119,111,117,110,100,119,97,105,116]⟩] w _;go_enter Tryz.func15,Tryz.ntmps15;go_wp2_with (first | (go_at_call 19;refine(HC.out _).mono ?_;rintro e w ⟨rfl,rfl⟩) | (go_at_call 30;refine H2.out.mono ?_;rintro e w1 ⟨v1,v2,v3,rfl,hT,hb1⟩) | (go_at_call 29;refine hT.mono ?_;rintro e w2 ⟨x,y,rfl,hE,hb2⟩;have HE:=zaj hE;have HB2:Hid (Below w.heap.size w w2):=hb1.trans (hb2.mono hb1.size);clear hE hb2));go_ret2;exact HP.out _ _ _ HE.out HB2.out
theorem zxo{sb:Nat}{v:Value}{w:World}{t:List UInt8}(hv:w.cell? ⟨sb,0,none⟩=some v)(h2:zp7 31 #[v,.bool false] 29 w t):Calls Tryz.prog 15 #[.pointer (some ⟨sb,0,none⟩),zaR zjN] w fun e w'=>zb6 w' w t e:=by have H2:=zaj h2;have HC:Hid (∀W,Calls Tryz.prog 19 #[.string ⟨#[115,116,97,109,112]⟩,.string ⟨#[104,105,115,116,111,114,121,32]⟩] W fun e w'=>e=.returned (.tuple #[.string ⟨#[115,116,97,109,112]⟩,.bool false])/\w'=W):=fun W=>za8 zjN W (by decide);have HP:Hid (∀(W:World) (x y:Value),zd0 W x y t->Below w.heap.size w W->zb6 W w t (.returned (.tuple #[x,y]))):=fun W x y a b=>⟨x,y,rfl,a,b⟩;clear h2;show Calls _ _ #[.pointer (some ⟨sb,0,none⟩),.string ⟨#[115,116,97,109,112]⟩] w _;go_enter Tryz.func15,Tryz.ntmps15;go_wp2_with (first | (go_at_call 19;refine(HC.out _).mono ?_;rintro e w ⟨rfl,rfl⟩) | (go_at_call 31;refine H2.out.mono ?_;rintro e w1 ⟨v1,v2,v3,rfl,hT,hb1⟩) | (go_at_call 29;refine hT.mono ?_;rintro e w2 ⟨x,y,rfl,hE,hb2⟩;have HE:=zaj hE;have HB2:Hid (Below w.heap.size w w2):=hb1.trans (hb2.mono hb1.size);clear hE hb2));go_ret2;exact HP.out _ _ _ HE.out HB2.out
theorem zxN{sb:Nat}{v:Value}{w:World}{t:List UInt8}(hv:w.cell? ⟨sb,0,none⟩=some v)(h2:Two 33 #[v] 32 w t):Calls Tryz.prog 15 #[.pointer (some ⟨sb,0,none⟩),zaR zjq] w fun e w'=>zb6 w' w t e:=by have H2:=zaj h2;have HC:Hid (∀W,Calls Tryz.prog 19 #[.string ⟨#[118,97,108,105,100]⟩,.string ⟨#[104,105,115,116,111,114,121,32]⟩] W fun e w'=>e=.returned (.tuple #[.string ⟨#[118,97,108,105,100]⟩,.bool false])/\w'=W):=fun W=>za8 zjq W (by decide);have HP:Hid (∀(W:World) (x y:Value),zd0 W x y t->Below w.heap.size w W->zb6 W w t (.returned (.tuple #[x,y]))):=fun W x y a b=>⟨x,y,rfl,a,b⟩;clear h2;show Calls _ _ #[.pointer (some ⟨sb,0,none⟩),.string ⟨#[118,97,108,105,100]⟩] w _;go_enter Tryz.func15,Tryz.ntmps15;go_wp2_with (first | (go_at_call 19;refine(HC.out _).mono ?_;rintro e w ⟨rfl,rfl⟩) | (go_at_call 33;refine H2.out.mono ?_;rintro e w1 ⟨v1,v2,rfl,hT,hb1⟩) | (go_at_call 32;refine hT.mono ?_;rintro e w2 ⟨x,y,rfl,hE,hb2⟩;have HE:=zaj hE;have HB2:Hid (Below w.heap.size w w2):=hb1.trans (hb2.mono hb1.size);clear hE hb2));go_ret2;exact HP.out _ _ _ HE.out HB2.out
theorem zz5{sb:Nat}{v:Value}{w:World}{t:List UInt8}(hv:w.cell? ⟨sb,0,none⟩=some v)(h2:Two 34 #[v] 32 w t):Calls Tryz.prog 15 #[.pointer (some ⟨sb,0,none⟩),zaR zp6] w fun e w'=>zb6 w' w t e:=by have H2:=zaj h2;have HC:Hid (∀W,Calls Tryz.prog 19 #[.string ⟨#[115,110,97,112]⟩,.string ⟨#[104,105,115,116,111,114,121,32]⟩] W fun e w'=>e=.returned (.tuple #[.string ⟨#[115,110,97,112]⟩,.bool false])/\w'=W):=fun W=>za8 zp6 W (by decide);have HP:Hid (∀(W:World) (x y:Value),zd0 W x y t->Below w.heap.size w W->zb6 W w t (.returned (.tuple #[x,y]))):=fun W x y a b=>⟨x,y,rfl,a,b⟩;clear h2;show Calls _ _ #[.pointer (some ⟨sb,0,none⟩),.string ⟨#[115,110,97,112]⟩] w _;go_enter Tryz.func15,Tryz.ntmps15;go_wp2_with (first | (go_at_call 19;refine(HC.out _).mono ?_;rintro e w ⟨rfl,rfl⟩) | (go_at_call 34;refine H2.out.mono ?_;rintro e w1 ⟨v1,v2,rfl,hT,hb1⟩) | (go_at_call 32;refine hT.mono ?_;rintro e w2 ⟨x,y,rfl,hE,hb2⟩;have HE:=zaj hE;have HB2:Hid (Below w.heap.size w w2):=hb1.trans (hb2.mono hb1.size);clear hE hb2));go_ret2;exact HP.out _ _ _ HE.out HB2.out
theorem ztT{sb:Nat}{v:Value}{w:World}{t:List UInt8}(hv:w.cell? ⟨sb,0,none⟩=some v)(h2:Two 35 #[v] 32 w t):Calls Tryz.prog 15 #[.pointer (some ⟨sb,0,none⟩),zaR zgF] w fun e w'=>zb6 w' w t e:=by have H2:=zaj h2;have HC:Hid (∀W,Calls Tryz.prog 19 #[.string ⟨#[100,97,110,103,101,114]⟩,.string ⟨#[104,105,115,116,111,114,121,32]⟩] W fun e w'=>e=.returned (.tuple #[.string ⟨#[100,97,110,103,101,114]⟩,.bool false])/\w'=W):=fun W=>za8 zgF W (by decide);have HP:Hid (∀(W:World) (x y:Value),zd0 W x y t->Below w.heap.size w W->zb6 W w t (.returned (.tuple #[x,y]))):=fun W x y a b=>⟨x,y,rfl,a,b⟩;clear h2;show Calls _ _ #[.pointer (some ⟨sb,0,none⟩),.string ⟨#[100,97,110,103,101,114]⟩] w _;go_enter Tryz.func15,Tryz.ntmps15;go_wp2_with (first | (go_at_call 19;refine(HC.out _).mono ?_;rintro e w ⟨rfl,rfl⟩) | (go_at_call 35;refine H2.out.mono ?_;rintro e w1 ⟨v1,v2,rfl,hT,hb1⟩) | (go_at_call 32;refine hT.mono ?_;rintro e w2 ⟨x,y,rfl,hE,hb2⟩;have HE:=zaj hE;have HB2:Hid (Below w.heap.size w w2):=hb1.trans (hb2.mono hb1.size);clear hE hb2));go_ret2;exact HP.out _ _ _ HE.out HB2.out
theorem zn1{sb:Nat}{v:Value}{w:World}{t:List UInt8}(hv:w.cell? ⟨sb,0,none⟩=some v)(h2:Two 36 #[v] 32 w t):Calls Tryz.prog 15 #[.pointer (some ⟨sb,0,none⟩),zaR zrV] w fun e w'=>zb6 w' w t e:=by have H2:=zaj h2;have HC:Hid (∀W,Calls Tryz.prog 19 #[.string ⟨#[118,101,114,115,105,111,110,115]⟩,.string ⟨#[104,105,115,116,111,114,121,32]⟩] W fun e w'=>e=.returned (.tuple #[.string ⟨#[118,101,114,115,105,111,110,115]⟩,.bool false])/\w'=W):=fun W=>za8 zrV W (by decide);have HP:Hid (∀(W:World) (x y:Value),zd0 W x y t->Below w.heap.size w W->zb6 W w t (.returned (.tuple #[x,y]))):=fun W x y a b=>⟨x,y,rfl,a,b⟩;clear h2;show Calls _ _ #[.pointer (some ⟨sb,0,none⟩),.string ⟨#[118,101,114,115,105,111,110,115]⟩] w _;go_enter Tryz.func15,Tryz.ntmps15;go_wp2_with (first | (go_at_call 19;refine(HC.out _).mono ?_;rintro e w ⟨rfl,rfl⟩) | (go_at_call 36;refine H2.out.mono ?_;rintro e w1 ⟨v1,v2,rfl,hT,hb1⟩) | (go_at_call 32;refine hT.mono ?_;rintro e w2 ⟨x,y,rfl,hE,hb2⟩;have HE:=zaj hE;have HB2:Hid (Below w.heap.size w w2):=hb1.trans (hb2.mono hb1.size);clear hE hb2));go_ret2;exact HP.out _ _ _ HE.out HB2.out
end Go.Proofs.YthlhgiihngcobaaGreatDoor
namespace Go.Proofs.YthlhgiihngcobaaGreatDoor
open Go.RowKit Go.Extern.Stop Go.Stop Go.Extern
theorem zjp(v:Value)(w:World):(ReflectliteType.typeOf #[.iface 51 v]).run Tryz.prog w=.ok (.iface 239 (.agg #[.pointer (some ⟨6,51,none⟩)])) w:=by kernel_rfl
theorem zus(w:World):(ReflectliteType.relation "AssignableTo" ReflectliteType.assignableTo #[.agg #[.pointer (some ⟨6,51,none⟩)],.iface 239 (.agg #[.pointer (some ⟨6,80,none⟩)])]).run Tryz.prog w=.ok (.bool false) w:=by kernel_rfl
theorem zrq(v:Value)(w:World):(ReflectliteType.typeOf #[.iface 337 v]).run Tryz.prog w=.ok (.iface 239 (.agg #[.pointer (some ⟨6,337,none⟩)])) w:=by kernel_rfl
theorem zzG(w:World):(ReflectliteType.relation "AssignableTo" ReflectliteType.assignableTo #[.agg #[.pointer (some ⟨6,337,none⟩)],.iface 239 (.agg #[.pointer (some ⟨6,80,none⟩)])]).run Tryz.prog w=.ok (.bool false) w:=by kernel_rfl
theorem zpz(v:Value)(x:TypeId)(w:World):(Instr.typeAssert (.iface 51 v) x 244 true).run Tryz.prog w=.ok (.tuple #[.nilIface,.bool false]) w :=run_typeAssert_lacksB Tryz.underlying244 (by kernel_rfl) (by kernel_rfl) v x w
theorem zyR(v:Value)(x:TypeId)(w:World):(Instr.typeAssert (.iface 51 v) x 247 true).run Tryz.prog w=.ok (.tuple #[.iface 51 v,.bool true]) w :=run_typeAssert_hasB Tryz.underlying247 (by kernel_rfl) v x w
theorem zwz(v:Value)(x:TypeId)(w:World):(Instr.typeAssert (.iface 337 v) x 244 true).run Tryz.prog w=.ok (.tuple #[.nilIface,.bool false]) w :=run_typeAssert_lacksB Tryz.underlying244 (by kernel_rfl) (by kernel_rfl) v x w
theorem zxi(v:Value)(x:TypeId)(w:World):(Instr.typeAssert (.iface 337 v) x 247 true).run Tryz.prog w=.ok (.tuple #[.nilIface,.bool false]) w :=run_typeAssert_lacksB Tryz.underlying247 (by kernel_rfl) (by kernel_rfl) v x w
theorem ztc(v:Value)(x:TypeId)(w:World):(Instr.typeAssert (.iface 337 v) x 249 true).run Tryz.prog w=.ok (.tuple #[.nilIface,.bool false]) w :=run_typeAssert_lacksB Tryz.underlying249 (by kernel_rfl) (by kernel_rfl) v x w
theorem zz2(n:Int)(t:Addr)(old:Value)(w:World)(hg:w.cell? ⟨1,0,none⟩=some (.iface 239 (.agg #[.pointer (some ⟨6,39,none⟩)])))(ht0:w.cell? t=some old)(hf0:w.frozen? t=false):Calls Tryz.prog 37 #[.iface 51 (.agg #[.iface 80 (.int .i64 n)]),.iface 82 (.pointer (some t))] w fun ev w'=>ev=.returned (.bool true)/\w'=(((((w.alloc (.cells #[.pointer (some t)] 82)).alloc (.cells #[.pointer (some ⟨6,82,none⟩),.pointer (some ⟨w.heap.size,0,none⟩),.int .u64 150] 175)).alloc (.cells #[.pointer (some ⟨6,82,none⟩),.pointer (some ⟨w.heap.size,0,none⟩),.int .u64 150] 175)).alloc (.cells #[.iface 80 (.int .i64 n)] 51)).alloc (.cells #[.int .i64 n] 80)).setCell t (.int .i64 n):=by
 have h6:=@run_callFunc_extern Tryz.prog 98 _ (fun args=>ReflectliteValue.unpack (args.getD 0 (.tuple #[]))) Tryz.func98 (by kernel_rfl) (by kernel_rfl) (by kernel_rfl) (by kernel_rfl);have h7:=@run_callFunc_extern Tryz.prog 99 _ (ReflectliteValue.methodAny (ReflectliteValue.valueError "reflectlite.Value.Type" 0) (fun t _ _ _=>ReflectliteType.toType t)) Tryz.func99 (by kernel_rfl) (by kernel_rfl) (by kernel_rfl) (by kernel_rfl);have h8:=@run_callFunc_extern Tryz.prog 100 _ (ReflectliteValue.method (ReflectliteValue.valueError "reflectlite.Value.IsNil" 0) ReflectliteValue.isNil) Tryz.func100 (by kernel_rfl) (by kernel_rfl) (by kernel_rfl) (by kernel_rfl);have h27:=@run_callFunc_extern Tryz.prog 296 _ (ReflectliteType.abiMethod fun t=>do pure (.int .u8 (<-Rtype.kind t))) Tryz.func296 (by kernel_rfl) (by kernel_rfl) (by kernel_rfl) (by kernel_rfl);have h37:=@run_callFunc_extern Tryz.prog 308 _ (ReflectliteType.method ReflectliteType.elem) Tryz.func308 (by kernel_rfl) (by kernel_rfl) (by kernel_rfl) (by kernel_rfl);have h38:=@run_callFunc_extern Tryz.prog 309 _ (ReflectliteType.relation "Implements" ReflectliteType.implements_) Tryz.func309 (by kernel_rfl) (by kernel_rfl) (by kernel_rfl) (by kernel_rfl);have h10:=@run_callFunc_extern Tryz.prog 170 _ ReflectliteType.typeOf Tryz.func170 (by kernel_rfl) (by kernel_rfl) (by kernel_rfl) (by kernel_rfl);have h35:=@run_callFunc_extern Tryz.prog 306 _ (ReflectliteType.relation "AssignableTo" ReflectliteType.assignableTo) Tryz.func306 (by kernel_rfl) (by kernel_rfl) (by kernel_rfl) (by kernel_rfl);have h11:=@run_callFunc_extern Tryz.prog 171 _ (ReflectliteValue.method (ReflectliteValue.valueError "reflectlite.Value.Elem" 0) ReflectliteValue.elem) Tryz.func171 (by kernel_rfl) (by kernel_rfl) (by kernel_rfl) (by kernel_rfl);have h12:=@run_callFunc_extern Tryz.prog 172 _ ReflectliteValue.set Tryz.func172 (by kernel_rfl) (by kernel_rfl) (by kernel_rfl) (by kernel_rfl);have tO:=zjl;have a25:=zfK;have v25:=zht;have f6:=zh9;have f7:=zo3;have k27:=zpu;have k25:=zpD;have e27:=zpx;have i25:=zfR;have n8:=zly ⟨w.heap.size,0,none⟩ t ((w.alloc (.cells #[.pointer (some t)] 82)).alloc (.cells #[.pointer (some ⟨6,82,none⟩),.pointer (some ⟨w.heap.size,0,none⟩),.int .u64 150] 175)) (by simp);have hlt:1<w.heap.size:=World.block_lt_of_cell? w _ hg;have hg2:((w.alloc (.cells #[.pointer (some t)] 82)).alloc (.cells #[.pointer (some ⟨6,82,none⟩),.pointer (some ⟨w.heap.size,0,none⟩),.int .u64 150] 175)).cell? ⟨1,0,none⟩=some (.iface 239 (.agg #[.pointer (some ⟨6,39,none⟩)])):=by rw[World.cell?_alloc_lt _ _ ⟨1,0,none⟩ (by show 1<_;rw[World.size_alloc];exact Nat.lt_succ_of_lt hlt),World.cell?_alloc_lt _ _ ⟨1,0,none⟩ hlt];exact hg
 have htl:t.block<w.heap.size:=by
  rcases Nat.lt_or_ge t.block w.heap.size with h | h
  ·exact h
  ·simp[World.cell?,Array.getElem?_eq_none h]at ht0
 have tF:=zjp;have nF:=zus;have kF:=zpz;have uF:=zyR;have el:=zxn ⟨w.heap.size,0,none⟩ t ((((w.alloc (.cells #[.pointer (some t)] 82)).alloc (.cells #[.pointer (some ⟨6,82,none⟩),.pointer (some ⟨w.heap.size,0,none⟩),.int .u64 150] 175)).alloc (.cells #[.pointer (some ⟨6,82,none⟩),.pointer (some ⟨w.heap.size,0,none⟩),.int .u64 150] 175)).alloc (.cells #[.iface 80 (.int .i64 n)] 51)) (by rw[World.cell?_alloc_lt _ _ ⟨w.heap.size,0,none⟩ (by simp;omega),World.cell?_alloc_lt _ _ ⟨w.heap.size,0,none⟩ (by simp;omega)];simp);have lv:((((w.alloc (.cells #[.pointer (some t)] 82)).alloc (.cells #[.pointer (some ⟨6,82,none⟩),.pointer (some ⟨w.heap.size,0,none⟩),.int .u64 150] 175)).alloc (.cells #[.pointer (some ⟨6,82,none⟩),.pointer (some ⟨w.heap.size,0,none⟩),.int .u64 150] 175)).alloc (.cells #[.iface 80 (.int .i64 n)] 51)).cell? ⟨w.heap.size+1+1,0,none⟩=some (.pointer (some ⟨6,82,none⟩))/\((((w.alloc (.cells #[.pointer (some t)] 82)).alloc (.cells #[.pointer (some ⟨6,82,none⟩),.pointer (some ⟨w.heap.size,0,none⟩),.int .u64 150] 175)).alloc (.cells #[.pointer (some ⟨6,82,none⟩),.pointer (some ⟨w.heap.size,0,none⟩),.int .u64 150] 175)).alloc (.cells #[.iface 80 (.int .i64 n)] 51)).cell? ⟨w.heap.size+1+1,1,none⟩=some (.pointer (some ⟨w.heap.size,0,none⟩))/\((((w.alloc (.cells #[.pointer (some t)] 82)).alloc (.cells #[.pointer (some ⟨6,82,none⟩),.pointer (some ⟨w.heap.size,0,none⟩),.int .u64 150] 175)).alloc (.cells #[.pointer (some ⟨6,82,none⟩),.pointer (some ⟨w.heap.size,0,none⟩),.int .u64 150] 175)).alloc (.cells #[.iface 80 (.int .i64 n)] 51)).cell? ⟨w.heap.size+1+1,2,none⟩=some (.int .u64 150):=by refine⟨?_,?_,?_⟩ <;> (rw[World.cell?_alloc_lt _ _ _ (by simp),World.cell?_alloc_at _ _ _ _ (by simp)];rfl)
 obtain⟨l0,l1,l2⟩:=lv
 have st:=zBH t ⟨w.heap.size+1+1+1+1,0,none⟩ n old (((((w.alloc (.cells #[.pointer (some t)] 82)).alloc (.cells #[.pointer (some ⟨6,82,none⟩),.pointer (some ⟨w.heap.size,0,none⟩),.int .u64 150] 175)).alloc (.cells #[.pointer (some ⟨6,82,none⟩),.pointer (some ⟨w.heap.size,0,none⟩),.int .u64 150] 175)).alloc (.cells #[.iface 80 (.int .i64 n)] 51)).alloc (.cells #[.int .i64 n] 80))
  (by rw[World.cell?_alloc_at _ _ _ _ (by simp)];rfl)
  (by rw[World.cell?_alloc_lt _ _ t (by simp;omega),World.cell?_alloc_lt _ _ t (by simp;omega),World.cell?_alloc_lt _ _ t (by simp;omega),World.cell?_alloc_lt _ _ t (by simp;omega),World.cell?_alloc_lt _ _ t htl];exact ht0)
  (by rw[World.frozen?_alloc_old _ _ t (by simp;omega),World.frozen?_alloc_old _ _ t (by simp;omega),World.frozen?_alloc_old _ _ t (by simp;omega),World.frozen?_alloc_old _ _ t (by simp;omega),World.frozen?_alloc_old _ _ t (Nat.ne_of_lt htl)];exact hf0)
 go_enter Tryz.func37,Tryz.ntmps37;go_wp2;refine wp_loop_rounds 2 ?_;rw[rounds_succ];go_wp2;rw[rounds_succ];go_wp2;go_ret;exact⟨rfl,rfl⟩
theorem zw9(v:Value)(t:Addr)(old:Value)(w:World)(hg:w.cell? ⟨1,0,none⟩=some (.iface 239 (.agg #[.pointer (some ⟨6,39,none⟩)])))(ht0:w.cell? t=some old):Calls Tryz.prog 37 #[.iface 51 (.agg #[.iface 337 v]),.iface 82 (.pointer (some t))] w fun ev w'=>ev=.returned (.bool false)/\w'=((((w.alloc (.cells #[.pointer (some t)] 82)).alloc (.cells #[.pointer (some ⟨6,82,none⟩),.pointer (some ⟨w.heap.size,0,none⟩),.int .u64 150] 175)).alloc (.cells #[.pointer (some ⟨6,82,none⟩),.pointer (some ⟨w.heap.size,0,none⟩),.int .u64 150] 175)).alloc (.cells #[.iface 337 v] 51)):=by
 have h6:=@run_callFunc_extern Tryz.prog 98 _ (fun args=>ReflectliteValue.unpack (args.getD 0 (.tuple #[]))) Tryz.func98 (by kernel_rfl) (by kernel_rfl) (by kernel_rfl) (by kernel_rfl);have h7:=@run_callFunc_extern Tryz.prog 99 _ (ReflectliteValue.methodAny (ReflectliteValue.valueError "reflectlite.Value.Type" 0) (fun t _ _ _=>ReflectliteType.toType t)) Tryz.func99 (by kernel_rfl) (by kernel_rfl) (by kernel_rfl) (by kernel_rfl);have h8:=@run_callFunc_extern Tryz.prog 100 _ (ReflectliteValue.method (ReflectliteValue.valueError "reflectlite.Value.IsNil" 0) ReflectliteValue.isNil) Tryz.func100 (by kernel_rfl) (by kernel_rfl) (by kernel_rfl) (by kernel_rfl);have h27:=@run_callFunc_extern Tryz.prog 296 _ (ReflectliteType.abiMethod fun t=>do pure (.int .u8 (<-Rtype.kind t))) Tryz.func296 (by kernel_rfl) (by kernel_rfl) (by kernel_rfl) (by kernel_rfl);have h37:=@run_callFunc_extern Tryz.prog 308 _ (ReflectliteType.method ReflectliteType.elem) Tryz.func308 (by kernel_rfl) (by kernel_rfl) (by kernel_rfl) (by kernel_rfl);have h38:=@run_callFunc_extern Tryz.prog 309 _ (ReflectliteType.relation "Implements" ReflectliteType.implements_) Tryz.func309 (by kernel_rfl) (by kernel_rfl) (by kernel_rfl) (by kernel_rfl);have h10:=@run_callFunc_extern Tryz.prog 170 _ ReflectliteType.typeOf Tryz.func170 (by kernel_rfl) (by kernel_rfl) (by kernel_rfl) (by kernel_rfl);have h35:=@run_callFunc_extern Tryz.prog 306 _ (ReflectliteType.relation "AssignableTo" ReflectliteType.assignableTo) Tryz.func306 (by kernel_rfl) (by kernel_rfl) (by kernel_rfl) (by kernel_rfl);have h11:=@run_callFunc_extern Tryz.prog 171 _ (ReflectliteValue.method (ReflectliteValue.valueError "reflectlite.Value.Elem" 0) ReflectliteValue.elem) Tryz.func171 (by kernel_rfl) (by kernel_rfl) (by kernel_rfl) (by kernel_rfl);have h12:=@run_callFunc_extern Tryz.prog 172 _ ReflectliteValue.set Tryz.func172 (by kernel_rfl) (by kernel_rfl) (by kernel_rfl) (by kernel_rfl);have tO:=zjl;have a25:=zfK;have v25:=zht;have f6:=zh9;have f7:=zo3;have k27:=zpu;have k25:=zpD;have e27:=zpx;have i25:=zfR;have n8:=zly ⟨w.heap.size,0,none⟩ t ((w.alloc (.cells #[.pointer (some t)] 82)).alloc (.cells #[.pointer (some ⟨6,82,none⟩),.pointer (some ⟨w.heap.size,0,none⟩),.int .u64 150] 175)) (by simp);have hlt:1<w.heap.size:=World.block_lt_of_cell? w _ hg;have hg2:((w.alloc (.cells #[.pointer (some t)] 82)).alloc (.cells #[.pointer (some ⟨6,82,none⟩),.pointer (some ⟨w.heap.size,0,none⟩),.int .u64 150] 175)).cell? ⟨1,0,none⟩=some (.iface 239 (.agg #[.pointer (some ⟨6,39,none⟩)])):=by rw[World.cell?_alloc_lt _ _ ⟨1,0,none⟩ (by show 1<_;rw[World.size_alloc];exact Nat.lt_succ_of_lt hlt),World.cell?_alloc_lt _ _ ⟨1,0,none⟩ hlt];exact hg
 have htl:t.block<w.heap.size:=by
  rcases Nat.lt_or_ge t.block w.heap.size with h | h
  ·exact h
  ·simp[World.cell?,Array.getElem?_eq_none h]at ht0
 have tF:=zjp;have nF:=zus;have kF:=zpz;have uF:=zyR;have tS:=zrq;have nS:=zzG;have kS:=zwz;have uS:=zxi;have usS:=ztc;go_enter Tryz.func37,Tryz.ntmps37;go_wp2;refine wp_loop_rounds 2 ?_;rw[rounds_succ];go_wp2;rw[rounds_succ];go_wp2;go_ret;exact⟨rfl,rfl⟩
end Go.Proofs.YthlhgiihngcobaaGreatDoor
namespace Go.Proofs.YthlhgiihngcobaaGreatDoor
open Go.RowKit
theorem zwF(n:Int)(w:World)(h1:1<=n)(h8:n<=8):Calls Tryz.prog 38 #[.int .i64 n] w fun e w'=>e=.returned (zaR (zeV n))/\w'=w:=by
 rcases(show n=1\/n=2\/n=3\/n=4\/n=5\/n=6\/n=7\/n=8 by omega)with rfl | rfl | rfl | rfl | rfl | rfl | rfl | rfl
 all_goals
  go_enter Tryz.func38,Tryz.ntmps38;go_wp2_with fail;go_ret;exact⟨rfl,rfl⟩
theorem zrA(n:Int)(w:World)(h1:1<=n)(h8:n<=8)(hg:EtAt w):Calls Tryz.prog 16 #[.agg #[.iface 80 (.int .i64 n)]] w fun e w'=>e=.returned (zaR (zeV n))/\Below w.heap.size w w':=by
 obtain⟨W,hW⟩:∃W,W=(w.alloc (.cells #[.iface 80 (.int .i64 n)] 51)).alloc (.cells #[.int .i64 0] 80):=⟨_,rfl⟩;have hgA:W.cell? ⟨1,0,none⟩=some (.iface 239 (.agg #[.pointer (some ⟨6,39,none⟩)])):=by rw[hW];exact(hg.alloc _).alloc _
 have htA:W.cell? ⟨w.heap.size+1,0,none⟩=some (.int .i64 0):=by rw[hW,World.cell?_alloc_at _ _ _ _ (by simp)];rfl
 have hfA:W.frozen? ⟨w.heap.size+1,0,none⟩=false:=by rw[hW];simp
 have hB:Below w.heap.size w W:=by rw[hW];exact((Below.refl _ w).alloc (Nat.le_refl _) _).alloc (by simp) _
 have hz:W.heap.size=w.heap.size+2:=by rw[hW];simp
 have HA:Hid (Calls Tryz.prog 37 #[.iface 51 (.agg #[.iface 80 (.int .i64 n)]),.iface 82 (.pointer (some ⟨w.heap.size+1,0,none⟩))] W fun e w'=>e=.returned (.bool true)/\w'.cell? ⟨w.heap.size+1,0,none⟩=some (.int .i64 n)/\Below w.heap.size w w'):=by refine(zz2 n _ (.int .i64 0) W hgA htA hfA).mono ?_;rintro e w' ⟨rfl,hw⟩;obtain⟨V,hV,rfl⟩:∃V,Below W.heap.size W V/\w'=V.setCell ⟨w.heap.size+1,0,none⟩ (.int .i64 n):=⟨_,by go_grown,hw⟩;refine⟨rfl,World.cell?_setCell_same' _ _ _ ?_,(hB.trans (hV.mono hB.size)).setCell (p:=⟨w.heap.size+1,0,none⟩) (by show w.heap.size<=w.heap.size+1;omega) _⟩;rw[hV.cell (p:=⟨w.heap.size+1,0,none⟩) (by show w.heap.size+1<_;omega),htA];rfl
 have HE:=zaj (fun W=>zwF n W h1 h8);rw[hW]at HA;clear hgA htA hfA hB hz hW hg h1 h8;go_enter Tryz.func16,Tryz.ntmps16;go_wp2_with (first | (go_at_call 37;refine HA.out.mono ?_;rintro e w1 ⟨rfl,hc1,hb1⟩) | (go_at_call 38;refine(HE.out _).mono ?_;rintro e w2 ⟨rfl,rfl⟩));go_ret;exact⟨rfl,hb1⟩
theorem zq2(a:Addr)(s:ByteArray)(w:World)(ha:w.cell? a=some (.string s)):Calls Tryz.prog 316 #[.pointer (some a)] w fun e w'=>e=.returned (.string s)/\w'=w:=by go_enter Tryz.func316,Tryz.ntmps316;go_wp2_with fail;go_ret;exact⟨rfl,rfl⟩
theorem zw2(a:Addr)(w:World)(ha:w.cell? a=some (.string ⟨#[98,97,100]⟩))(hg:EtAt w):Calls Tryz.prog 16 #[.agg #[.iface 337 (.pointer (some a))]] w fun e w'=>e=.returned (zaR zAL)/\Below w.heap.size w w':=by
 have hal:=World.block_lt_of_cell? w a ha;obtain⟨W,hW⟩:∃W,W=(w.alloc (.cells #[.iface 337 (.pointer (some a))] 51)).alloc (.cells #[.int .i64 0] 80):=⟨_,rfl⟩;have hgA:W.cell? ⟨1,0,none⟩=some (.iface 239 (.agg #[.pointer (some ⟨6,39,none⟩)])):=by rw[hW];exact(hg.alloc _).alloc _
 have htA:W.cell? ⟨w.heap.size+1,0,none⟩=some (.int .i64 0):=by rw[hW,World.cell?_alloc_at _ _ _ _ (by simp)];rfl
 have hfA:W.cell? ⟨w.heap.size,0,none⟩=some (.iface 337 (.pointer (some a))):=by rw[hW,World.cell?_alloc_lt _ _ _ (by simp),World.cell?_alloc_at _ _ _ _ (by simp)];rfl
 have hB:Below w.heap.size w W:=by rw[hW];exact((Below.refl _ w).alloc (Nat.le_refl _) _).alloc (by simp) _
 have hz:W.heap.size=w.heap.size+2:=by rw[hW];simp
 have HA:Hid (Calls Tryz.prog 37 #[.iface 51 (.agg #[.iface 337 (.pointer (some a))]),.iface 82 (.pointer (some ⟨w.heap.size+1,0,none⟩))] W fun e w'=>e=.returned (.bool false)/\(w'.cell? ⟨w.heap.size,0,none⟩=some (.iface 337 (.pointer (some a)))/\w'.cell? a=some (.string ⟨#[98,97,100]⟩))/\Below w.heap.size w w'):=by
  refine(zw9 _ _ (.int .i64 0) W hgA htA).mono ?_;rintro e w' ⟨rfl,hw⟩;have hV:Below W.heap.size W w':=by rw[hw];go_grown
  exact⟨rfl,⟨(hV.cell (p:=⟨w.heap.size,0,none⟩) (by show w.heap.size<_;omega)).trans hfA,(hV.cell (p:=a) (by omega)).trans ((hB.cell (p:=a) hal).trans ha)⟩,hB.trans (hV.mono hB.size)⟩
 rw[hW]at HA;clear hgA htA hfA hB hz hW hg ha hal;go_enter Tryz.func16,Tryz.ntmps16;go_wp2_with (first | (go_at_call 37;refine HA.out.mono ?_;rintro e w1 ⟨rfl,⟨hc0,hc1⟩,hb1⟩) | (go_at_call 316;refine(zq2 a _ _ hc1).mono ?_;rintro e w2 ⟨rfl,rfl⟩));go_ret;exact⟨rfl,hb1⟩
end Go.Proofs.YthlhgiihngcobaaGreatDoor
namespace Go.Proofs.YthlhgiihngcobaaGreatDoor
open Go.RowKit
def Ses(B:Nat)(w:World)(sb:Nat)(v:Value)(h:List Op3):Prop:=w.heap[sb]? = some (.cells #[v] 30 (0,0))/\w.ownsRow B 103 3 v h.length (flat h)
theorem Ses.below{B:Nat}{w w1:World}{sb:Nat}{v:Value}{h:List Op3}(hs:Ses B w sb v h)(hb:Below w.heap.size w w1):Ses B w1 sb v h:=⟨(hb.block sb (zbB hs.1)).trans hs.1,zaH hs.2 hb (Nat.le_refl _)⟩
structure zqg(sb:Nat)(w w1:World):Prop where
 os:w1.os=w.os
 tape:w1.tape=w.tape
 output:w1.output=w.output
 size:w.heap.size<=w1.heap.size
 block:∀k,k<w.heap.size->k≠sb->w1.heap[k]? = w.heap[k]?
theorem zn3{sb:Nat}{w w1:World}(h:Below w.heap.size w w1):zqg sb w w1:=⟨h.os,h.tape,h.output,h.size,fun k hk _=>h.block k hk⟩
theorem zxr{sb:Nat}{w w1:World}(h:Below w.heap.size w w1)(v:Value):zqg sb w (w1.setCell ⟨sb,0,none⟩ v):=by have h0:=(Below.refl sb w1).setCell (p:=⟨sb,0,none⟩) (Nat.le_refl _) v;exact⟨h0.os.trans h.os,h0.tape.trans h.tape,h0.output.trans h.output,Nat.le_trans h.size h0.size,fun k hk hne=>(Below.heap_setCell w1 ⟨sb,0,none⟩ v k hne).trans (h.block k hk)⟩
theorem zqg.below{sb B:Nat}{w w1:World}(h:zqg sb w w1)(h1:B<=sb)(h2:B<=w.heap.size):Below B w w1:=⟨h.os,h.tape,h.output,h.size,fun k hk=>h.block k (by omega) (by omega)⟩
theorem zqg.more{sb:Nat}{w w1 w2:World}(h:zqg sb w w1)(hb:Below w1.heap.size w1 w2):zqg sb w w2 :=⟨hb.os.trans h.os,hb.tape.trans h.tape,hb.output.trans h.output,Nat.le_trans h.size hb.size,fun k hk hne=>(hb.block k (Nat.lt_of_lt_of_le hk h.size)).trans (h.block k hk hne)⟩
def zoi(h:List Op3)(l:List UInt8):List UInt8 × List Op3:=match zbS l with
 | none=>(zeV 2,h)
 | some ds=>if(chk (ds.take 41)).2≠0 then(zeV (chk (ds.take 41)).2,h)else(zBW,ds)
def zn9(B sb:Nat)(w:World)(r:List UInt8 × List Op3)(e:Ending)(w1:World):Prop:=∃x y,e=.returned (.tuple #[x,y])/\zd0 w1 x y r.1/\(∃v1,Ses B w1 sb v1 r.2)/\zqg sb w w1
theorem zzh{B sb:Nat}{v:Value}{h:List Op3}{w:World}(l:List UInt8)(hl:l.length<=9223372036854775807)(hs:Ses B w sb v h)(hB:B<=w.heap.size):Calls Tryz.prog 20 #[.pointer (some ⟨sb,0,none⟩),zaR l] w fun e w'=>zn9 B sb w (zoi h l) e w':=by
 unfold zoi;have HS:=zaj hs;cases hp:zbS l with
 | none =>have HP:=zaj (ziW l w hl hp);have HF:Hid (∀w1,Below w.heap.size w w1->zn9 B sb w (zeV 2,h) (.returned (.tuple #[.string ⟨#[]⟩,.iface 80 (.int .i64 2)])) w1):=fun w1 hb=>⟨_,_,rfl,.inr (.inl ⟨_,2,rfl,rfl,by decide,rfl⟩),⟨v,HS.out.below hb⟩,zn3 hb⟩;clear hs hp hB;go_enter Tryz.func20,Tryz.ntmps20;go_wp2_with (go_at_call 41;refine HP.out.mono ?_;rintro e w1 ⟨rfl,hb1⟩);go_ret2;exact HF.out _ hb1
 | some ds =>
   by_cases hc:(chk (ds.take 41)).2=0
   ·have HP:=zaj (zso l ds w hl hp hc);have hk:¬(chk (ds.take 41)).2≠0:=fun h=>h hc;simp only[if_neg hk]
    have HF:Hid (∀w1 v1,Below w.heap.size w w1->w1.ownsRow w.heap.size 103 3 v1 ds.length (flat ds)->zn9 B sb w (zBW,ds) (.returned (.tuple #[.string ⟨#[111,107]⟩,.nilIface])) (w1.setCell ⟨sb,0,none⟩ v1)):=fun w1 v1 hb ho=>by
     have hb0:=(HS.out.below hb).1;have hlt:=zbB HS.out.1;refine⟨_,_,rfl,.inl ⟨rfl,rfl⟩,⟨v1,?_,?_⟩,zxr hb v1⟩
     ·simp[World.setCell,Array.getElem?_modify,hb0]
     ·refine zhp (World.ownsRow.kept ho (row:=some sb) ⟨rfl,rfl,rfl,by simp[World.setCell],fun k _ hk=>Below.heap_setCell _ _ _ _ (fun e=>hk (by simp[e]))⟩ (Or.inr (zkx ho hb0 fun cs fr e=>?_))) hB;injection e with _ e2;exact absurd e2 (by decide)
    have HW:Hid (∀w1,Below w.heap.size w w1->w1.cell? ⟨sb,0,none⟩=some v/\w1.frozen? ⟨sb,0,none⟩=false):=fun w1 hb=>⟨(Lib.cell_of_heap (HS.out.below hb).1 0).trans rfl,Lib.frozen_of_heap (HS.out.below hb).1 0⟩;clear hs hp hB hc hk;go_enter Tryz.func20,Tryz.ntmps20;go_wp2_with (go_at_call 41;refine HP.out.mono ?_;rintro e w1 ⟨v1,rfl,⟨-,ho1⟩,hb1⟩;obtain⟨hc1,hf1⟩:=HW.out w1 hb1;obtain⟨ad,cap,rfl⟩:=zeg ho1;have HO1:=zaj ho1;have HB1:=zaj hb1;clear ho1 hb1);go_ret2;exact HF.out _ _ HB1.out HO1.out
   ·have HP:=zaj (zv6 l ds w hl hp hc);simp only[if_pos hc];have HF:Hid (∀w1,Below w.heap.size w w1->zn9 B sb w (zeV (chk (ds.take 41)).2,h) (.returned (.tuple #[.string ⟨#[]⟩,.iface 80 (.int .i64 (chk (ds.take 41)).2)])) w1):=fun w1 hb=>⟨_,_,rfl,.inr (.inl ⟨_,_,rfl,rfl,zoR _ hc,rfl⟩),⟨v,HS.out.below hb⟩,zn3 hb⟩;obtain⟨n,hn⟩:∃n,(chk (ds.take 41)).2=n:=⟨_,rfl⟩;rw[hn]at HP HF ⊢;clear hs hp hB hc hn;go_enter Tryz.func20,Tryz.ntmps20;go_wp2_with (go_at_call 41;refine HP.out.mono ?_;rintro e w1 ⟨rfl,hb1⟩);go_ret2;exact HF.out _ hb1
theorem zzk{B sb:Nat}{v:Value}{h:List Op3}{w:World}(l:List UInt8)(hl:l.length<=9223372036854775807)(hs:Ses B w sb v h)(hB:B<=w.heap.size)(hh:l.take 8=zfe):Calls Tryz.prog 15 #[.pointer (some ⟨sb,0,none⟩),zaR l] w fun e w'=>zn9 B sb w (zoi h (l.drop 8)) e w':=by have HC:Hid (∀W,Calls Tryz.prog 19 #[zaR l,.string ⟨#[104,105,115,116,111,114,121,32]⟩] W fun e w'=>e=.returned (.tuple #[zaR (l.drop 8),.bool true])/\w'=W):=fun W=>(zsI l W).mono fun e w' ⟨he,hw⟩=>⟨by rw[he,if_pos hh,decide_eq_true hh],hw⟩;have HT:=zaj (zzh (l.drop 8) (by rw[List.length_drop];omega) hs hB);have HP:Hid (∀(W:World) (x y:Value),zd0 W x y (zoi h (l.drop 8)).1->(∃v1,Ses B W sb v1 (zoi h (l.drop 8)).2)->zqg sb w W->zn9 B sb w (zoi h (l.drop 8)) (.returned (.tuple #[x,y])) W):=fun W x y a b c=>⟨x,y,rfl,a,b,c⟩;clear hs hB hh hl;go_enter Tryz.func15,Tryz.ntmps15;go_wp2_with (first | (go_at_call 19;refine(HC.out _).mono ?_;rintro e w ⟨rfl,rfl⟩) | (go_at_call 20;refine HT.out.mono ?_;rintro e w2 ⟨x,y,rfl,hE,hS,hU⟩));go_ret2;exact HP.out _ _ _ hE hS hU
theorem zBv{sb:Nat}{w:World}(l:List UInt8)(h:l.take 8≠zfe)(hb:zBn w)(hn:l≠zjT/\l≠zrx/\l≠zjx/\l≠zrP/\l≠zgG/\l≠zgB/\l≠zq1/\l≠zjf/\l≠zjN/\l≠zjq/\l≠zp6/\l≠zgF/\l≠zrV):Calls Tryz.prog 15 #[.pointer (some ⟨sb,0,none⟩),zaR l] w fun e w'=>zb6 w' w zAL e:=by have HC:=zaj (fun W=>za8 l W h);obtain⟨a,hg,ha⟩:=hb;have HP:Hid (∀(W:World),W.heap=w.heap->Below w.heap.size w W->zb6 W w zAL (.returned (.tuple #[.string ⟨#[]⟩,.iface 337 (.pointer (some a))]))):=fun W hW hb=>⟨_,_,rfl,.inr (.inr ⟨_,a,rfl,rfl,(hb.cell (p:=a) (World.block_lt_of_cell? w a ha)).trans ha,rfl⟩),hb⟩;obtain⟨n0,n1,n2,n3,n4,n5,n6,n7,n8,n9,n10,n11,n12⟩:=hn;have b0:(l == [111,114,100,101,114])=false:=beq_eq_false_iff_ne.2 n0;have b1:(l == [118,105,101,119])=false:=beq_eq_false_iff_ne.2 n1;have b2:(l == [102,97,99,101,115])=false:=beq_eq_false_iff_ne.2 n2;have b3:(l == [105,108,108,115])=false:=beq_eq_false_iff_ne.2 n3;have b4:(l == [118,97,108,117,101,115])=false:=beq_eq_false_iff_ne.2 n4;have b5:(l == [100,101,116,101,99,116])=false:=beq_eq_false_iff_ne.2 n5;have b6:(l == [119,97,105,116,100,105,101])=false:=beq_eq_false_iff_ne.2 n6;have b7:(l == [119,111,117,110,100,119,97,105,116])=false:=beq_eq_false_iff_ne.2 n7;have b8:(l == [115,116,97,109,112])=false:=beq_eq_false_iff_ne.2 n8;have b9:(l == [118,97,108,105,100])=false:=beq_eq_false_iff_ne.2 n9;have b10:(l == [115,110,97,112])=false:=beq_eq_false_iff_ne.2 n10;have b11:(l == [100,97,110,103,101,114])=false:=beq_eq_false_iff_ne.2 n11;have b12:(l == [118,101,114,115,105,111,110,115])=false:=beq_eq_false_iff_ne.2 n12;clear h ha n0 n1 n2 n3 n4 n5 n6 n7 n8 n9 n10 n11 n12;go_enter Tryz.func15,Tryz.ntmps15;go_wp2_with (go_at_call 19;refine(HC.out _).mono ?_;rintro e w ⟨rfl,rfl⟩);go_quiet (fail);go_wp2_with fail;go_ret2;exact HP.out _ rfl ⟨rfl,rfl,rfl,Nat.le_refl _,fun _ _=>rfl⟩
theorem zzz{B:Nat}{w:World}{sb:Nat}{v:Value}{h:List Op3}(hs:Ses B w sb v h):zai w v h/\w.cell? ⟨sb,0,none⟩=some v/\∃(ad:Option Addr) (cap:Nat),v=.slice ad h.length cap/\h.length<=cap:=by
 refine⟨zdX hs.2 rfl,(Lib.cell_of_heap hs.1 0).trans rfl,?_⟩;rcases hs.2.2 with⟨hv,h0⟩ | ⟨g,cap,cur,hv,_,_,hc,_⟩
 ·exact⟨none,0,by rw[hv,h0],by omega⟩
 ·exact⟨_,cap,hv,hc⟩
theorem zBG{B sb:Nat}{v:Value}{h:List Op3}{w:World}(l:List UInt8)(hs:Ses B w sb v h)(hc:(chk h).2=0)(hg:zhA w)(hh:l.take 8≠zfe):Calls Tryz.prog 15 #[.pointer (some ⟨sb,0,none⟩),zaR l] w fun e w'=>zb6 w' w (zeT h l) e:=by
 obtain⟨hv,hcell,ad,cap,rfl,hcap⟩:=zzz hs;have hp:=hg.pow;by_cases n0:l=zjT
 ·rw[n0,show zeT h zjT=_ by unfold zeT;rw[if_pos rfl]];exact zxx hcell (zvW hv hc hp)
 by_cases n1:l=zrx
 ·rw[n1,show zeT h zrx=_ by unfold zeT;rw[if_neg (by decide),if_pos rfl]];exact zzT hcell (zxD hv hc hp)
 by_cases n2:l=zjx
 ·rw[n2,show zeT h zjx=_ by unfold zeT;rw[if_neg (by decide),if_neg (by decide),if_pos rfl]];exact zxb hcell (zsm hv hcap hc)
 by_cases n3:l=zrP
 ·rw[n3,show zeT h zrP=_ by unfold zeT;rw[if_neg (by decide),if_neg (by decide),if_neg (by decide),if_pos rfl]];exact zy2 hcell (zyq hv hcap hc)
 by_cases n4:l=zgG
 ·rw[n4,show zeT h zgG=_ by unfold zeT;rw[if_neg (by decide),if_neg (by decide),if_neg (by decide),if_neg (by decide),if_pos rfl]];exact zv8 hcell (zrr hv hc hp)
 by_cases n5:l=zgB
 ·rw[n5,show zeT h zgB=_ by unfold zeT;rw[if_neg (by decide),if_neg (by decide),if_neg (by decide),if_neg (by decide),if_neg (by decide),if_pos rfl]];exact zt9 hcell (zem 0 (by decide) hv hc)
 by_cases n6:l=zq1
 ·rw[n6,show zeT h zq1=_ by unfold zeT;rw[if_neg (by decide),if_neg (by decide),if_neg (by decide),if_neg (by decide),if_neg (by decide),if_neg (by decide),if_pos rfl]];exact zrm hcell (zem 1 (by decide) hv hc)
 by_cases n7:l=zjf
 ·rw[n7,show zeT h zjf=_ by unfold zeT;rw[if_neg (by decide),if_neg (by decide),if_neg (by decide),if_neg (by decide),if_neg (by decide),if_neg (by decide),if_neg (by decide),if_pos rfl]];exact zlD hcell (zem 2 (by decide) hv hc)
 by_cases n8:l=zjN
 ·rw[n8,show zeT h zjN=_ by unfold zeT;rw[if_neg (by decide),if_neg (by decide),if_neg (by decide),if_neg (by decide),if_neg (by decide),if_neg (by decide),if_neg (by decide),if_neg (by decide),if_pos rfl]];exact zxo hcell (zni hv hc)
 by_cases n9:l=zjq
 ·rw[n9,show zeT h zjq=_ by unfold zeT;rw[if_neg (by decide),if_neg (by decide),if_neg (by decide),if_neg (by decide),if_neg (by decide),if_neg (by decide),if_neg (by decide),if_neg (by decide),if_neg (by decide),if_pos rfl]];exact zxN hcell (zhr zBs hv hc hp)
 by_cases n10:l=zp6
 ·rw[n10,show zeT h zp6=_ by unfold zeT;rw[if_neg (by decide),if_neg (by decide),if_neg (by decide),if_neg (by decide),if_neg (by decide),if_neg (by decide),if_neg (by decide),if_neg (by decide),if_neg (by decide),if_neg (by decide),if_pos rfl]];exact zz5 hcell (zhr zCd hv hc hp)
 by_cases n11:l=zgF
 ·rw[n11,show zeT h zgF=_ by unfold zeT;rw[if_neg (by decide),if_neg (by decide),if_neg (by decide),if_neg (by decide),if_neg (by decide),if_neg (by decide),if_neg (by decide),if_neg (by decide),if_neg (by decide),if_neg (by decide),if_neg (by decide),if_pos rfl]];exact ztT hcell (zhr zz0 hv hc hp)
 by_cases n12:l=zrV
 ·rw[n12,show zeT h zrV=_ by unfold zeT;rw[if_neg (by decide),if_neg (by decide),if_neg (by decide),if_neg (by decide),if_neg (by decide),if_neg (by decide),if_neg (by decide),if_neg (by decide),if_neg (by decide),if_neg (by decide),if_neg (by decide),if_neg (by decide),if_pos rfl]];exact zn1 hcell (zhr zB9 hv hc hp)
 rw[show zeT h l=zAL by unfold zeT;rw[if_neg n0,if_neg n1,if_neg n2,if_neg n3,if_neg n4,if_neg n5,if_neg n6,if_neg n7,if_neg n8,if_neg n9,if_neg n10,if_neg n11,if_neg n12]];exact zBv l hh hg.bad ⟨n0,n1,n2,n3,n4,n5,n6,n7,n8,n9,n10,n11,n12⟩
theorem zCh{B sb:Nat}{v:Value}{h:List Op3}{w:World}(l:List UInt8)(hl:l.length<=9223372036854775807)(hs:Ses B w sb v h)(hB:B<=w.heap.size)(hc:(chk h).2=0)(hg:zhA w):Calls Tryz.prog 15 #[.pointer (some ⟨sb,0,none⟩),zaR l] w fun e w'=>zn9 B sb w (za9 h l) e w':=by
 by_cases hh:l.take 8=zfe
 ·rw[show za9 h l=zoi h (l.drop 8)by unfold za9;rw[if_pos hh];rfl];exact zzk l hl hs hB hh
 ·rw[show za9 h l=(zeT h l,h)by unfold za9;rw[if_neg hh]];exact(zBG l hs hc hg hh).mono fun e w' ⟨x,y,he,hE,hb⟩=>⟨x,y,he,hE,⟨_,hs.below hb⟩,zn3 hb⟩
def ztf(B sb:Nat)(w:World)(r:List UInt8 × List Op3)(e:Ending)(w1:World):Prop:=e=.returned (zaR r.1)/\(∃v1,Ses B w1 sb v1 r.2)/\zqg sb w w1
theorem ztv{B sb:Nat}{v:Value}{h:List Op3}{w:World}(l:List UInt8)(hl:l.length<=9223372036854775807)(hs:Ses B w sb v h)(hB:B<=w.heap.size)(hsb:1<sb)(hc:(chk h).2=0)(hg:zhA w):Calls Tryz.prog 9 #[.pointer (some ⟨sb,0,none⟩),zaR l] w fun e w'=>ztf B sb w (za9 h l) e w':=by
 have HD:=zaj (zCh l hl hs hB hc hg);have HET:Hid (∀w1,zqg sb w w1->EtAt w1):=fun w1 hT=>by have h0:=hg.et;have hlt:=hg.et.lt;unfold EtAt at h0 ⊢;rw[World.cell?_of_block (w:=w) (hT.block _ hlt (by show 1≠sb;omega))];exact h0
 obtain⟨r,hr⟩:∃r,za9 h l=r:=⟨_,rfl⟩;rw[hr]at HD ⊢;have HF:Hid (∀w1 w2,(∃v1,Ses B w1 sb v1 r.2)->zqg sb w w1->Below w1.heap.size w1 w2->ztf B sb w r (.returned (zaR r.1)) w2):=fun w1 w2 ⟨v1,h1⟩ hT hb=>⟨rfl,⟨v1,h1.below hb⟩,hT.more hb⟩;clear hs hB hsb hc hg hr hl;go_enter Tryz.func9,Tryz.ntmps9;go_wp2_with (go_at_call 15;refine HD.out.mono ?_);rintro e w1 ⟨x,y,rfl,hE,hS,hT⟩;have HS:=zaj hS;have HT:=zaj hT;have he:=HET.out w1 hT;clear hS hT;rcases hE with⟨rfl,rfl⟩ | ⟨s,n,rfl,rfl,⟨h1,h8⟩,ht⟩ | ⟨s,a,rfl,rfl,ha,ht⟩
 ·go_wp2_with fail;go_ret;exact HF.out _ _ HS.out HT.out (Below.refl _ _)
 ·have HN:=zaj (zrA n w1 h1 h8 he);rw[<-ht]at HN;clear he h1 h8 ht;go_wp2_with (go_at_call 16;refine HN.out.mono ?_;rintro e w2 ⟨rfl,hb2⟩);go_ret;exact HF.out _ _ HS.out HT.out hb2
 ·have HN:=zaj (zw2 a w1 ha he);rw[<-ht]at HN;clear he ha ht;go_wp2_with (go_at_call 16;refine HN.out.mono ?_;rintro e w2 ⟨rfl,hb2⟩);go_ret;exact HF.out _ _ HS.out HT.out hb2
end Go.Proofs.YthlhgiihngcobaaGreatDoor
namespace Go.Proofs.YthlhgiihngcobaaGreatDoor
open Go.RowKit Go.Shelf
attribute [local go_sem] Oper.semAt_some
theorem zlR{w w1:World}{B e s n:Nat}{v:Value}{xs:List Value}{row:Option Nat}(h:w.ownsRow B e s v n xs)(hg:w.grownBy w1 row)(hr:∀r,row=some r->∃o:Obj,w.heap[r]? = some o/\∀cs fr,o≠.cells cs e fr):w1.ownsRow B e s v n xs:=by
 refine h.kept hg ?_;cases hv:v.ownBlock with
 | none=>exact .inl rfl
 | some g =>refine .inr fun e=>?_;obtain⟨o,h1,h2⟩:=hr g e.symm;exact zkx h h1 h2 hv
theorem ztV{B sb:Nat}{w w1:World}{v:Value}{h:List Op3}{row:Option Nat}(hs:Ses B w sb v h)(hg:w.grownBy w1 row)(hr:∀r,row=some r->∃o:Obj,w.heap[r]? = some o/\(∀cs fr,o≠.cells cs 30 fr)/\∀cs fr,o≠.cells cs 103 fr):Ses B w1 sb v h :=⟨(hg.block sb (zbB hs.1) (fun e=>by obtain⟨o,h1,h2,_⟩:=hr sb e.symm;rw[hs.1]at h1;exact h2 _ _ (Option.some.inj h1).symm)).trans hs.1,zlR hs.2 hg fun r e=>by obtain⟨o,h1,_,h3⟩:=hr r e;exact⟨o,h1,h3⟩⟩
theorem zsp{B tb:Nat}{w:World}{bs:List Value}(h:Lib.IsBuilder 34 5 B tb bs w):∃cs,w.heap[tb]? = some (.cells cs 34 (0,0)):=by
 rcases h with⟨_,v,hv,_⟩ | ⟨_,v,hv,_⟩
 ·exact⟨_,hv⟩
 ·exact⟨_,hv⟩
theorem zia{B tb:Nat}{w w1:World}{bs:List Value}{row:Option Nat}(h:Lib.IsBuilder 34 5 B tb bs w)(hg:w.grownBy w1 row)(hr:∀r,row=some r->∃o:Obj,w.heap[r]? = some o/\(∀cs fr,o≠.cells cs 34 fr)/\∀cs fr,o≠.cells cs 5 fr):Lib.IsBuilder 34 5 B tb bs w1/\w1.heap[tb]? = w.heap[tb]? := by
 obtain⟨cs,hcs⟩:=zsp h;have hb:w1.heap[tb]? = w.heap[tb]? := hg.block tb (zbB hcs) (fun e=>by obtain⟨o,h1,h2,_⟩:=hr tb e.symm;rw[hcs]at h1;exact h2 _ _ (Option.some.inj h1).symm);have one:∀p,Lib.BuilderAt 34 5 B tb p bs w->Lib.BuilderAt 34 5 B tb p bs w1:=by rintro p ⟨h1,v,hbk,hown,hne⟩;exact⟨h1,v,hb.trans hbk,zlR hown hg (fun r e=>by obtain⟨o,h1,_,h3⟩:=hr r e;exact⟨o,h1,h3⟩),hne⟩
 refine⟨?_,hb⟩;rcases h with h | h
 ·exact .inl (one _ h)
 ·exact .inr (one _ h)
theorem zf5{B sb:Nat}{w w1:World}{v:Value}{h:List Op3}(hs:Ses B w sb v h)(hU:zcl w w1):Ses B w1 sb v h:=by
 refine⟨hU sb _ hs.1 (fun cs fr e=>?_) (fun cs fr e=>?_),hs.2.1,?_⟩
 ·injection e with _ e2;exact absurd e2 (by decide)
 ·injection e with _ e2;exact absurd e2 (by decide)
 ·rcases hs.2.2 with hn | ⟨g,cap,cur,hv,hb,hg,rest⟩
  ·exact .inl hn
  ·refine .inr ⟨g,cap,cur,hv,hb,hU g _ hg (fun cs fr e=>?_) (fun cs fr e=>?_),rest⟩
   ·injection e with _ e2;exact absurd e2 (by decide)
   ·injection e with _ e2;exact absurd e2 (by decide)
theorem zro{sb:Nat}{w w1:World}{cs:Array Value}{T:TypeId}{fr:Nat × Nat}(h:zqg sb w w1)(hs:w.heap[sb]? = some (.cells cs T fr)):KeepsOthers w w1 :=⟨h.size,fun k o hk ho=>(h.block k (zbB hk) (fun e=>by rw[e,hs]at hk;rw[<-Option.some.inj hk]at ho;cases ho)).trans hk⟩
theorem zdW{B:Nat}{w w1:World}(h:zcl w w1)(hb:Below B w w1):KeepsOthers w w1 :=⟨hb.size,fun k o hk ho=>h k o hk (fun cs fr e=>by rw[e]at ho;cases ho) (fun cs fr e=>by rw[e]at ho;cases ho)⟩
theorem zAq{S:Type}(f:S->List UInt8->List UInt8 × S)(h:S)(a b:List (List UInt8)):stL f h (a++b)=stL f (stL f h a) b:=by
 induction a generalizing h with
 | nil=>rfl
 | cons l r ih=>exact ih _
theorem zym(ls:List (List UInt8)):∀h,(chk h).2=0->(chk (stL za9 h ls)).2=0:=by
 induction ls with
 | nil=>intro h hc;exact hc
 | cons l r ih=>intro h hc;exact ih _ (line_right hc l)
theorem zxt(ls:List (List UInt8)):(ze9 za9 [] ls).length<=ls.length*1000001:=by have h:=zph zxm (N:=1000000) (fun h l=>zkR h.2 l) ⟨[],rfl⟩ ls;rw[zpF]at h;exact h
theorem zpO(ls:List (List UInt8))(x:List UInt8):ze9 za9 [] (ls++[x])=ze9 za9 [] ls++(za9 (stL za9 [] ls) x).1++[10]:=by rw[zp1];simp[ze9]
def zyX(w:World)(h:List Op3)(t:List UInt8)(W:World):Prop:=(∃v,Ses w.heap.size W w.heap.size v h)/\Lib.IsBuilder 34 5 w.heap.size (w.heap.size+1) (Lib.byteCells t) W
def zBf(w:World)(pre:List Ln)(W:World):Prop:=(zyX w (stL za9 [] (pre.map (·.1))) (ze9 za9 [] (pre.map (·.1))) W/\(ze9 za9 [] (pre.map (·.1))=[]->W.heap[w.heap.size+1]? = some (.cells #[.pointer none,.slice none 0 0] 34 (0,0))))/\Below w.heap.size w W
theorem zx4(w:World)(B:Nat)(hB:w.heap.size<=B):OwnFrom B (zBf w):=by
 intro pre W W1 row ⟨⟨⟨⟨v,hs⟩,hb⟩,hf⟩,hbel⟩ hg hr;have hr':∀r,row=some r->∃o:Obj,W.heap[r]? = some o/\∀cs T fr,o≠.cells cs T fr:=fun r e=>by obtain⟨_,o,h1,h2⟩:=hr r e;exact⟨o,h1,fun cs T fr e=>by rw[e]at h2;cases h2⟩
 obtain⟨h1,h2⟩:=zia hb hg fun r e=>by obtain⟨o,h1,h2⟩:=hr' r e;exact⟨o,h1,fun cs fr=>h2 cs _ fr,fun cs fr=>h2 cs _ fr⟩
 exact⟨⟨⟨⟨v,ztV hs hg fun r e=>by obtain⟨o,h1,h2⟩:=hr' r e;exact⟨o,h1,fun cs fr=>h2 cs _ fr,fun cs fr=>h2 cs _ fr⟩⟩,h1⟩,fun e=>h2.trans (hf e)⟩,hbel.grown hg hbel.size fun k e=>Nat.le_trans hB (hr k e).1⟩
def zel(w W W1:World):Prop:=KeepsOthers W W1/\Below w.heap.size W W1
theorem zel.trans{w A B C:World}(h:zel w A B)(k:zel w B C):zel w A C:=⟨h.1.trans k.1,h.2.trans k.2⟩
theorem zAg{w W:World}{h:List Op3}{t:List UInt8}(x:Ln)(hJ:zyX w h t W)(hz:w.heap.size<=W.heap.size)(hsb:1<w.heap.size)(hc:(chk h).2=0)(hg:zhA W):Calls Tryz.prog 9 #[.pointer (some ⟨w.heap.size,0,none⟩),zaR x.1] W fun e w1=>e=.returned (zaR (za9 h x.1).1)/\zyX w (za9 h x.1).2 t w1/\zel w W w1:=by
 obtain⟨⟨v,hs⟩,hb⟩:=hJ;refine(ztv x.1 (Nat.le_trans x.2 (by decide)) hs hz hsb hc hg).mono ?_;rintro e w1 ⟨rfl,hs1,hT⟩;obtain⟨h1,-⟩:=zia hb (row:=some w.heap.size) ⟨hT.os,hT.tape,hT.output,hT.size,fun k hk hne=>hT.block k hk fun e=>hne (by rw[e])⟩ fun r e=>by cases e;exact⟨_,hs.1,fun cs fr e=>(by injection e with _ e2;exact absurd e2 (by decide)),fun cs fr e=>(by injection e with _ e2;exact absurd e2 (by decide))⟩
 exact⟨rfl,⟨hs1,h1⟩,zro hT hs.1,hT.below (Nat.le_refl _) hz⟩
theorem zzn{w W:World}{h:List Op3}{t:List UInt8}(a:List UInt8)(hJ:zyX w h t W)(hz:w.heap.size<=W.heap.size)(hl:t.length+a.length<=140737488355328):Calls Tryz.prog 8 #[.pointer (some ⟨w.heap.size+1,0,none⟩),zaR a] W fun e w1=>(∃n,e=.returned (.tuple #[.int .i64 n,.nilIface]))/\zyX w h (t++a) w1/\zel w W w1:=by obtain⟨⟨v,hs⟩,hb⟩:=hJ;refine(zf6 w.heap.size (w.heap.size+1) (Lib.byteCells t) ⟨a.toArray⟩ W hb (by rw[Lib.byteCells_length];show t.length+a.toArray.size<=_;rw[List.size_toArray];exact hl) hz).mono ?_;rintro e w1 ⟨rfl,hb1,hbel,hU⟩;refine⟨⟨_,rfl⟩,⟨⟨v,zf5 hs hU⟩,.inr ?_⟩,zdW hU hbel,hbel⟩;rw[zaY,<-zfk];exact hb1
theorem zzu{w W:World}{h:List Op3}{t:List UInt8}(hJ:zyX w h t W)(hz:w.heap.size<=W.heap.size)(hl:t.length+1<=140737488355328):Calls Tryz.prog 10 #[.pointer (some ⟨w.heap.size+1,0,none⟩),.int .u8 10] W fun e w1=>e=.returned .nilIface/\zyX w h (t++[10]) w1/\zel w W w1:=by obtain⟨⟨v,hs⟩,hb⟩:=hJ;refine(zhB w.heap.size (w.heap.size+1) (Lib.byteCells t) 10 W hb (by rw[Lib.byteCells_length];exact hl) hz).mono ?_;rintro e w1 ⟨rfl,hb1,hbel,hU⟩;refine⟨rfl,⟨⟨v,zf5 hs hU⟩,.inr ?_⟩,zdW hU hbel,hbel⟩;rw[zaY];exact hb1
theorem zwD{w W:World}{pre:List Ln}(hI:zBf w pre W):Calls Tryz.prog 11 #[.pointer (some ⟨w.heap.size+1,0,none⟩)] W fun e w1=>e=.returned (zaR (ze9 za9 [] (pre.map (·.1))))/\Below w.heap.size W w1/\zcl W w1:=by
 by_cases h:ze9 za9 [] (pre.map (·.1))=[]
 ·rw[h];exact zgS _ _ _ _ (hI.1.2 h)
 ·exact zgb _ _ _ _ hI.1.1.2 h
theorem znf(n:Nat)(hn:1<=n)(Bs n₀:Nat)(s:List UInt8)(hs:s.length<=3000)(w:World)(hBs:Bs<w.heap.size)(hc:w.cell? ⟨Bs,0,none⟩=some (zaR s)):SeqStopsK Fence.wide n Tryz.prog 12 #[.pointer (some ⟨Bs,0,none⟩)] (fun x:Ln=>#[zaR x.1]) (Below n₀) (fun ys=>ys.map (·.1)=zaD [] s) (fun _=>True) (zaD [] s).length w:=fun l J Jx W hW hJ _ hY h0 =>zt0 n hn l Bs n₀ s hs J Jx (fun pre W h=>hJ pre W W.drew none h (zq5 W) (fun r e=>by cases e)) hY W ((hW.cell (p:=⟨Bs,0,none⟩) hBs).trans hc) h0
theorem zsE(s:List UInt8)(w:World)(hs:s.length<=3000)(hg:zhA w):Calls Tryz.prog 5 #[zaR s] w fun e w'=>e=.returned (zaR (ze9 za9 [] (zaD [] s)))/\Below w.heap.size w w':=by
 have hL:=zjD [] s;have HL:Hid ((zaD [] s).length<=3001):=by show _<=_;omega
 have hsz:(⟨s.toArray⟩:ByteArray).size=s.length:=by show s.toArray.size=_;rw[List.size_toArray]
 have hn:¬(3000:Int)<((⟨s.toArray⟩:ByteArray).size:Int):=by rw[hsz];omega
 have hsb:1<w.heap.size:=hg.et.lt;have HG:=zaj hg;have HS:=zaj hs;have HSB:=zaj hsb;clear hL hsz hs hg hsb;refine(callsIn_wide (n:=5)).1 ?_;refine callsIn_of_wp_marks Tryz.func5 rfl trivial ?_ rfl;simp only[Tryz.ntmps5,List.size_toArray,List.length_cons,List.length_nil,Nat.reduceAdd,Nat.reduceSub,Array.replicate_succ,Array.replicate_zero,List.push_toArray,List.append_toArray,List.nil_append,List.cons_append];gi_wp2_with (refine⟨trivial,?_⟩;gi_at_call 7;refine(callsIn_wide.2 (zxT s _)).mono ?_;rintro e w1 ⟨rfl,rfl⟩);have hB0:Below w.heap.size w (((w.alloc (.cells #[.slice none 0 0] 30)).alloc (.cells #[.pointer none,.slice none 0 0] 34)).alloc (.cells #[zaR s] 9)):=(((Below.refl _ w).alloc (Nat.le_refl _) _).alloc (by simp) _).alloc (by simp;omega) _;have hs0:(((w.alloc (.cells #[.slice none 0 0] 30)).alloc (.cells #[.pointer none,.slice none 0 0] 34)).alloc (.cells #[zaR s] 9)).heap[w.heap.size]? = some (.cells #[.slice none 0 0] 30 (0,0)) :=(Below.heap_alloc _ _ _ (by simp;omega)).trans ((Below.heap_alloc _ _ _ (by simp)).trans (World.alloc_heap_new w _))
 have ht0:(((w.alloc (.cells #[.slice none 0 0] 30)).alloc (.cells #[.pointer none,.slice none 0 0] 34)).alloc (.cells #[zaR s] 9)).heap[w.heap.size+1]? = some (.cells #[.pointer none,.slice none 0 0] 34 (0,0)):=by
  refine(Below.heap_alloc _ _ _ (by simp)).trans ?_;have:=World.alloc_heap_new (w.alloc (.cells #[.slice none 0 0] 30)) (.cells #[.pointer none,.slice none 0 0] 34)
  rwa [World.size_alloc]at this
 have hI0:zBf w [] (((w.alloc (.cells #[.slice none 0 0] 30)).alloc (.cells #[.pointer none,.slice none 0 0] 34)).alloc (.cells #[zaR s] 9)) :=⟨⟨⟨⟨_,hs0,World.ownsRow_nil _ _ _ _⟩,.inl ⟨by omega,_,ht0,World.ownsRow_nil _ _ _ _,by simp[Value.ownBlock]⟩⟩,fun _=>ht0⟩,hB0⟩
 refine wpIn_rangeFunc_ownF rfl (by omega) (gf:=12) (lb:=#[.pointer (some ⟨w.heap.size+1+1,0,none⟩)]) rfl trivial (enters_of Tryz.func12 (by kernel_rfl) rfl)
  (znf _ (by omega) (w.heap.size+1+1) w.heap.size s HS.out _ (by simp) (by rw[World.cell?_alloc_at _ _ _ _ (by simp)];rfl)) belowK_t (belowK_b (by simp;omega)) (Below.refl _ _) (fun _=>rfl)
  (zBf w) (fun _ _ _=>False) (zx4 w _ (by simp;omega)) (fun _ _ _ _ _ hs _ _=>hs) hI0
  (fun x=>{ tmps:=#[zaR s,undef,.string ⟨#[]⟩,.pointer (some ⟨w.heap.size,0,none⟩),.pointer (some ⟨w.heap.size+1,0,none⟩),zaR x.1,zaR s,.int .i64 (s.length:Int),.bool (decide ((3000:Int)<(s.length:Int))),zaR s,.func (.func 12) #[] #[.pointer (some ⟨w.heap.size+1+1,0,none⟩)],zaR x.1,undef,undef,undef,undef,undef],defers:=[] }) ?assign ?body ?done ?stop
 case assign =>intro l x W K hK;gi_wp2;exact hK
 case body =>
  rintro l pre x W hI hlt;have hB:=hI.2;have hc:=zym (pre.map (·.1)) [] rfl;have HA:=zaj (zAg x hI.1.1 hB.size HSB.out hc (HG.out.below hB));have hlen:=zxt (pre.map (·.1));rw[List.length_map]at hlen;have hl3:=HL.out;have hll:=zkR hc x.1;have HLB:Hid ((ze9 za9 [] (pre.map (·.1))).length+(za9 (stL za9 [] (pre.map (·.1))) x.1).1.length+1<=140737488355328):=by show _<=_;omega
  have HF:Hid (∀W1,zyX w (za9 (stL za9 [] (pre.map (·.1))) x.1).2 (ze9 za9 [] (pre.map (·.1))++(za9 (stL za9 [] (pre.map (·.1))) x.1).1++[10]) W1->zel w W W1->KeepsOthers W W1/\Below w.heap.size W W1/\zBf w (pre++[x]) W1):=fun W1 hJ hk=>by
   refine⟨hk.1,hk.2,⟨?_,fun e=>?_⟩,hB.trans hk.2⟩
   ·rw[List.map_append,zAq,List.map_cons,List.map_nil,zpO];exact hJ
   ·rw[List.map_append,List.map_cons,List.map_nil,zpO]at e;simp at e
  have HZ:=zaj hB.size;obtain⟨r,hr⟩:∃r,za9 (stL za9 [] (pre.map (·.1))) x.1=r:=⟨_,rfl⟩;obtain⟨t,ht⟩:∃t,ze9 za9 [] (pre.map (·.1))=t:=⟨_,rfl⟩;rw[hr,ht]at HA HF HLB;clear hI hlt hB hc hlen hl3 hll hr ht;gi_wp2_with (first | (refine⟨trivial,?_⟩;gi_at_call 9;refine(CallsIn.inRound l (callsIn_wide.2 HA.out)).mono ?_;rintro e w1 ⟨rfl,hJ1,hk1⟩;have HB:=zaj (zzn r.1 hJ1 (Nat.le_trans HZ.out hk1.2.size) (by have:=HLB.out;omega));have HK1:=zaj hk1;clear hJ1 hk1) | (refine⟨trivial,?_⟩;gi_at_call 8;refine(CallsIn.inRound l (callsIn_wide.2 HB.out)).mono ?_;rintro e w2 ⟨⟨n,rfl⟩,hJ2,hk2⟩;have HK2:=zaj (HK1.out.trans hk2);have HC:=zaj (zzu hJ2 (Nat.le_trans HZ.out HK2.out.2.size) (by have:=HLB.out;rw[List.length_append];omega));clear hJ2 hk2) | (refine⟨trivial,?_⟩;gi_at_call 10;refine(CallsIn.inRound l (callsIn_wide.2 HC.out)).mono ?_;rintro e w3 ⟨rfl,hJ3,hk3⟩));exact HF.out _ hJ3 (HK2.out.trans hk3)
 case done =>
  rintro D ys W hD hS hI hK;have HT:=zaj (zwD hI);rw[hS]at HT;have HB:=zaj hI.2;have hz0:w.heap.size<=D:=by simp at hD;omega
  clear hI hS;gi_wp2_with (refine⟨trivial,?_⟩;gi_at_call 11;refine(callsIn_wide.2 HT.out).mono ?_;rintro e w1 ⟨rfl,hb1,hU1⟩);have hK1:w1.heap[D]? = some (.deferred (some [])):=hU1 D _ hK (fun _ _ e=>by cases e) (fun _ _ e=>by cases e);refine⟨by simp,.inl ⟨_,_,rfl,run_takeDeferred hK1,?_⟩⟩;exact⟨_,results_tmp rfl _ _ _,rfl,(HB.out.trans hb1).trans (belowK_b (w:=w) (Nat.le_refl _) w1 D _ _ hz0 hK1 rfl rfl)⟩
 case stop =>rintro D c pre W _ _ h _;exact h.elim
theorem zyj(s:ByteArray)(w:World)(hs:3000<s.size):Calls Tryz.prog 5 #[.string s] w fun e w'=>e=.returned (.string zhJ)/\Below w.heap.size w w':=by
 have h:(3000:Int)<(s.size:Int):=by omega
 clear hs;go_enter Tryz.func5,Tryz.ntmps5;go_wp2_with fail;go_ret;exact⟨rfl,Below.refl _ _⟩
theorem zB4:zA9 (zpK za9 []):=fun s w hs hg=>by
 unfold zpK;by_cases h:3000<s.size
 ·rw[if_pos h];exact zyj s w h
 ·rw[if_neg h];have e:s=⟨s.data.toList.toArray⟩:=by cases s;simp
  have h2:=zsE s.data.toList w (by rw[zdk];omega) hg;unfold zaR at h2;rw[<-e]at h2;exact h2
end Go.Proofs.YthlhgiihngcobaaGreatDoor
