/-
  PROVED HERE: history.isOp, history.ends and history.Check answer as the plain functions of the text Plain say, whatever; how a list of ops lies in memory, as a slice value that came in or that the program made itself; history.keep gives those ops of a list that a closure says yes to, in order, in new memory; history.Done gives the ops of the deals that commit, in order, of a list that is right.
  Conditions: none but those that each theorem's own premises say.
-/
import Derived.Test.YthlhgiihngcobaaGreatDoorProg
import Derived.Test.YthlhgiihngcobaaGreatDoorMgag
import Derived.WalkKit
import Derived.WalkSpells
import Derived.Handy
import Derived.Deep.RegionWith
set_option maxHeartbeats 32000000
set_option maxRecDepth 100000
namespace Go.Proofs.YthlhgiihngcobaaGreatDoor
open Go.RowKit
def zdw(w:World)(b off:Nat)(l:List Op3):Prop :=∀i,i<l.length->w.cell? ⟨b,off+i*3,none⟩=some (.int .i64 (l.getD i (0,0,0)).1)/\w.cell? ⟨b,off+i*3+1,none⟩=some (.int .i64 (l.getD i (0,0,0)).2.1)/\w.cell? ⟨b,off+i*3+2,none⟩=some (.int .i64 (l.getD i (0,0,0)).2.2)
theorem zbP{x y:Bool}(h:x=y):Ending.returned (.bool x)=.returned (.bool y):=by rw[h]
theorem ends_any(a:Int)(w:World):Calls Tryz.prog 140 #[.int .i64 a] w fun e w'=>e=.returned (.bool (zax a))/\w'=w:=by
 go_enter Tryz.func140,Tryz.ntmps140;go_wp2;all_goals go_ret
 all_goals exact⟨by simp_all [zax],rfl⟩
theorem isOp_any(t a i:Int)(w:World):Calls Tryz.prog 139 #[.agg #[.int .i64 t,.int .i64 a,.int .i64 i]] w fun e w'=>e=.returned (.bool (isOpB (t,a,i)))/\w'=w.alloc (.cells #[.int .i64 t,.int .i64 a,.int .i64 i] 103):=by
 go_enter Tryz.func139,Tryz.ntmps139;go_wp2_with (go_at_call 140;refine(ends_any _ _).mono ?_;rintro e w' ⟨rfl,rfl⟩);all_goals go_ret
 all_goals refine⟨zbP ?_,rfl⟩
 all_goals (first | (simp_all [isOpB];done) | (simp_all [isOpB];omega))
def znR(n:Int):Value:=if n=0 then .nilIface else .iface 80 (.int .i64 n)
theorem znb{n:Int}(h:n≠0):znR n=.iface 80 (.int .i64 n):=if_neg h
theorem zfq{x y:Int}{v u:Value}(h:x=y)(h2:v=u):Ending.returned (.tuple #[.int .i64 x,v])=.returned (.tuple #[.int .i64 y,u]):=by rw[h,h2]
def zcO(w:World)(B:Nat)(l:List Op3):Prop:=∀j,j<7->w.cell? ⟨B,j,none⟩=some (.bool (zao l (j:Nat)))/\w.frozen? ⟨B,j,none⟩=false
theorem zcO.lt{w:World}{B:Nat}{l:List Op3}(h:zcO w B l):B<w.heap.size:=by
 rcases Nat.lt_or_ge B w.heap.size with h0 | h0
 ·exact h0
 ·have:=(h 0 (by omega)).1;simp[World.cell?,Array.getElem?_eq_none h0]at this
theorem zgO(l:List Op3)(w:World):zcO (w.alloc (.cells #[.bool false,.bool false,.bool false,.bool false,.bool false,.bool false,.bool false] 25)) w.heap.size (List.take 0 l):=by
 intro j hj
 match j,hj with
 | 0,_=>exact⟨by simp[zao],by simp⟩
 | 1,_=>exact⟨by simp[zao],by simp⟩
 | 2,_=>exact⟨by simp[zao],by simp⟩
 | 3,_=>exact⟨by simp[zao],by simp⟩
 | 4,_=>exact⟨by simp[zao],by simp⟩
 | 5,_=>exact⟨by simp[zao],by simp⟩
 | 6,_=>exact⟨by simp[zao],by simp⟩
theorem zbs(l:List Op3)(o:Op3)(t:Int):zao (l++[o]) t=(zao l t || (o.1 == t && zax o.2.1)):=by simp[zao]
theorem zcO.step{w:World}{B:Nat}{l:List Op3}{t a i:Int}(h:zcO w B l)(h1:1<=t)(h6:t<=6)(hen:zao l t=false)(o1 o2:Obj):zcO (((w.setCell ⟨B,t.toNat,none⟩ (.bool (zax a))).alloc o1).alloc o2).drew B (l++[(t,a,i)]):=by
 have hlt:=h.lt;intro j hj;have hz:(w.setCell ⟨B,t.toNat,none⟩ (.bool (zax a))).heap.size=w.heap.size:=by simp
 obtain⟨hc,hf⟩:=h j hj;obtain⟨hct,_⟩:=h t.toNat (by omega);constructor
 ·rw[World.cell?_drew,World.cell?_alloc_lt _ _ ⟨B,j,none⟩ (by simp;omega),World.cell?_alloc_lt _ _ ⟨B,j,none⟩ (by simp;omega),zbs];by_cases hjt:j=t.toNat
  ·subst hjt;rw[World.cell?_setCell_same _ _ _ hct,show((t.toNat:Nat):Int)=t by omega,hen];simp
  ·rw[World.cell?_setCell_other _ _ _ _ (by intro he;injection he with _ he2 _;exact hjt he2.symm),hc];have:(t == (j:Int))=false:=by simp;omega
   simp[this]
 ·rw[World.frozen?_drew,World.frozen?_alloc_old _ _ ⟨B,j,none⟩ (by simp;omega),World.frozen?_alloc_old _ _ ⟨B,j,none⟩ (by simp;omega)];simpa using hf
theorem zaG{o:Op3}(h:isOpB o=true):1<=o.1/\o.1<=6:=by simp[isOpB]at h;omega
theorem zns{l:List Op3}{k:Nat}{o:Op3}(hk:k<l.length)(h:chkFrom (l.take k) (l.drop k)=chk l)(hd:l.drop k=o::l.drop (k+1))(ho:isOpB o=false):chk l=(k,1):=by rw[<-h,hd,zci _ _ ho,List.length_take,Nat.min_eq_left (by omega)]
theorem znr{l:List Op3}{k:Nat}{o:Op3}(hk:k<l.length)(h:chkFrom (l.take k) (l.drop k)=chk l)(hd:l.drop k=o::l.drop (k+1))(ho:isOpB o=true)(he:zao (l.take k) o.1=true):chk l=(k,6):=by rw[<-h,hd,zcj _ ho he,List.length_take,Nat.min_eq_left (by omega)]
theorem zlg{l:List Op3}{k:Nat}{o:Op3}(h:chkFrom (l.take k) (l.drop k)=chk l)(hd:l.drop k=o::l.drop (k+1))(ht:l.take (k+1)=l.take k++[o])(ho:isOpB o=true)(he:zao (l.take k) o.1=false):chkFrom (l.take (k+1)) (l.drop (k+1))=chk l:=by rw[<-h,hd,zdt _ ho he,ht]
theorem zne{l:List Op3}{k:Nat}(hk:l.length<=k)(h:chkFrom (l.take k) (l.drop k)=chk l):chk l=(0,0):=by rw[<-h,List.drop_of_length_le hk];rfl
theorem zjk(l:List Op3)(ad:Option Addr)(b off cap:Nat)(w:World)(ha:0<l.length->ad=some ⟨b,off,none⟩)(hbB:b<w.heap.size\/l=[])(hops:zdw w b off l):Calls Tryz.prog 81 #[.slice ad l.length cap] w fun e w'=>e=.returned (.tuple #[.int .i64 (chk l).1,znR (chk l).2])/\Below w.heap.size w w':=by
 by_cases h40:40<l.length
 ·have hc:chk l=(0,4):=by unfold chk;rw[if_pos h40]
  have HC:Hid (chk l=(0,4)):=hc;clear hc hops ha hbB;go_enter Tryz.func81,Tryz.ntmps81;go_wp2;go_ret2;exact⟨zfq (by rw[HC.out];rfl) (by rw[HC.out];rfl),Below.refl _ _⟩
 ·have HC:Hid (chk l=chkFrom [] l):=zcV l (by omega);go_enter Tryz.func81,Tryz.ntmps81;go_wp2
  go_loopw [13] (fun v13 wr=>∃k:Nat,k<=l.length/\v13=.int .i64 k/\chkFrom (l.take k) (l.drop k)=chk l/\zcO wr w.heap.size (l.take k)/\Below w.heap.size w wr) (fun v13 _=>l.length-(intOf v13).toNat)
  case atStart=>exact⟨0,Nat.zero_le _,rfl,by rw[HC.out];simp,zgO l w,(Below.refl _ _).alloc (Nat.le_refl _) _⟩
  case round =>
   obtain⟨k,hk,rfl,hck,hend,hbel⟩:=hrel;have HK:Hid (chkFrom (l.take k) (l.drop k)=chk l):=hck;clear hck;by_cases hlt:k<l.length
   ·have hsz:w.heap.size<wr.heap.size:=hend.lt;obtain rfl:=ha (by omega);obtain⟨c0,c1,c2⟩:=hops k hlt
    have hb1:b<w.heap.size:=by
     rcases hbB with h | h
     ·exact h
     ·subst h;simp at hlt
    rw[<-hbel.cell (p:=⟨b,off+k*3,none⟩) hb1]at c0;rw[<-hbel.cell (p:=⟨b,off+k*3+1,none⟩) hb1]at c1;rw[<-hbel.cell (p:=⟨b,off+k*3+2,none⟩) hb1]at c2;obtain⟨⟨t,a,i⟩,ho⟩:∃o:Op3,l.getD k (0,0,0)=o:=⟨_,rfl⟩;rw[ho]at c0 c1 c2;have hdr:l.drop k=(t,a,i)::l.drop (k+1):=by rw[<-ho];simp[List.getD,List.getElem?_eq_getElem hlt]
    have HD:Hid (l.drop k=(t,a,i)::l.drop (k+1)):=hdr;have HT:Hid (l.take (k+1)=l.take k++[(t,a,i)]):=by show l.take (k+1)=l.take k++[(t,a,i)];rw[List.take_succ_eq_append_getElem hlt,<-ho];simp[List.getD,List.getElem?_eq_getElem hlt]
    clear ho hdr hops ha hbB;simp only at c0 c1 c2;cases hop:isOpB (t,a,i)with
    | false =>go_wp2_with (first | (go_at_call 139;refine(isOp_any _ _ _ _).mono ?_;rintro e w' ⟨rfl,rfl⟩));go_ret2;have hres:=zns hlt HK.out HD.out hop;exact⟨zfq (by rw[hres]) (by rw[hres];rfl),(((hbel.alloc (by omega) _).alloc (by simp;omega) _))⟩
    | true =>
      have htb:=zaG hop;obtain⟨ht1,ht6⟩:=htb;have hce:=hend t.toNat (by omega);rw[show((t.toNat:Nat):Int)=t by omega]at hce;obtain⟨hc1,hc2⟩:=hce;cases hen:zao (l.take k) t with
      | true =>rw[hen]at hc1;go_wp2_with (first | (go_at_call 139;refine(isOp_any _ _ _ _).mono ?_;rintro e w' ⟨rfl,rfl⟩));go_ret2;have hres:=znr hlt HK.out HD.out hop hen;exact⟨zfq (by rw[hres]) (by rw[hres];rfl),(((hbel.alloc (by omega) _).alloc (by simp;omega) _))⟩
      | false =>
        rw[hen]at hc1;go_wp2_with (first | (go_at_call 139;refine(isOp_any _ _ _ _).mono ?_;rintro e w' ⟨rfl,rfl⟩))
        go_region_with (go_at_call 140;refine(ends_any _ _).mono ?_;rintro e w' ⟨rfl,rfl⟩)
        all_goals
         go_wp2;go_roundw
         case rel=>exact⟨k+1,by omega,by go_num,zlg HK.out HD.out HT.out hop hen,by rw[HT.out];exact hend.step ht1 ht6 hen _ _,((((hbel.setCell (by simp) _).alloc (by simp;omega) _).alloc (by simp;omega) _)).drew⟩
         case measure=>simp[intOf];omega
   ·go_wp2;go_ret2;have hres:=zne (by omega) HK.out;exact⟨zfq (by rw[hres];rfl) (by rw[hres];rfl),hbel⟩
end Go.Proofs.YthlhgiihngcobaaGreatDoor
namespace Go.Proofs.YthlhgiihngcobaaGreatDoor
open Go.RowKit
def flat:List Op3->List Value
 | []=>[]
 | o::r=>.int .i64 o.1 :: .int .i64 o.2.1 :: .int .i64 o.2.2::flat r
theorem zdX(l:List Op3):(flat l).length=l.length*3:=by
 induction l with
 | nil=>rfl
 | cons o r ih=>simp[flat,ih];omega
theorem zbj(l m:List Op3):flat (l++m)=flat l++flat m:=by
 induction l with
 | nil=>rfl
 | cons o r ih=>simp[flat,ih]
theorem zcY(l:List Op3):∀u∈flat l,u.oneCell'=true:=by
 induction l with
 | nil=>intro u hu;cases hu
 | cons o r ih =>
   intro u hu;simp only[flat,List.mem_cons]at hu;rcases hu with rfl | rfl | rfl | hu
   ·rfl
   ·rfl
   ·rfl
   ·exact ih u hu
theorem zjx(l:List Op3):∀i,i<l.length->(flat l)[i*3]? = some (.int .i64 (l.getD i (0,0,0)).1)/\(flat l)[i*3+1]? = some (.int .i64 (l.getD i (0,0,0)).2.1)/\(flat l)[i*3+2]? = some (.int .i64 (l.getD i (0,0,0)).2.2):=by
 induction l with
 | nil=>intro i hi;cases hi
 | cons o r ih =>
   intro i hi;cases i with
   | zero=>exact⟨rfl,rfl,rfl⟩
   | succ i =>have:=ih i (by simpa using hi);rw[show(i+1)*3=i*3+3 by omega];simpa[flat]using this
theorem zk1{w:World}{b off:Nat}{l:List Op3}(h:∀j u,(flat l)[j]? = some u->w.cell? ⟨b,off+j,none⟩=some u):zdw w b off l:=by intro i hi;obtain⟨h0,h1,h2⟩:=zjx l i hi;exact⟨h _ _ h0,by rw[Nat.add_assoc];exact h _ _ h1,by rw[Nat.add_assoc];exact h _ _ h2⟩
theorem zdw.flat{w:World}{b off:Nat}{l:List Op3}(h:zdw w b off l):∀j u,(flat l)[j]? = some u->w.cell? ⟨b,off+j,none⟩=some u:=by
 intro j u hj;have hlt:j<l.length*3:=by rw[<-zdX];exact(List.getElem?_eq_some_iff.1 hj).1
 obtain⟨c0,c1,c2⟩:=h (j / 3) (by omega);obtain⟨f0,f1,f2⟩:=zjx l (j / 3) (by omega);rcases(show j=j / 3*3\/j=j / 3*3+1\/j=j / 3*3+2 by omega)with e | e | e
 ·rw[<-e]at c0 f0;rw[f0]at hj;rw[c0,<-hj]
 ·rw[Nat.add_assoc,<-e]at c1;rw[<-e]at f1;rw[f1]at hj;rw[c1,<-hj]
 ·rw[Nat.add_assoc,<-e]at c2;rw[<-e]at f2;rw[f2]at hj;rw[c2,<-hj]
theorem zdw.below{w w1:World}{b off B:Nat}{l:List Op3}(h:zdw w b off l)(hb:Below B w w1)(hB:b<B\/l=[]):zdw w1 b off l:=by
 intro i hi
 have hB':b<B:=by
  rcases hB with h | h
  ·exact h
  ·subst h;cases hi
 rw[hb.cell (p:=⟨b,off+i*3,none⟩) hB',hb.cell (p:=⟨b,off+i*3+1,none⟩) hB',hb.cell (p:=⟨b,off+i*3+2,none⟩) hB'];exact h i hi
theorem zh0:(Tryz.prog.info? 103).map (fun i=>(i.zero,i.size,i.bytes))=some (some (.agg #[.int .i64 0,.int .i64 0,.int .i64 0]),3,24):=by kernel_rfl
def zal(w:World)(v:Value)(l:List Op3):Prop :=∃(ad:Option Addr) (b off cap:Nat),v=.slice ad l.length cap/\(0<l.length->ad=some ⟨b,off,none⟩)/\(ad=none->l.length=0/\cap=0)/\(b<w.heap.size\/l=[])/\zdw w b off l
theorem zal.below{w w1:World}{B:Nat}{v:Value}{l:List Op3}(h:zal w v l)(hb:Below B w w1)(hB:w.heap.size<=B):zal w1 v l:=by
 obtain⟨ad,b,off,cap,hv,ha,hn,hbB,hops⟩:=h;have hs:=hb.size;refine⟨ad,b,off,cap,hv,ha,hn,?_,hops.below hb ?_⟩
 ·rcases hbB with h | h
  ·exact .inl (by omega)
  ·exact .inr h
 ·rcases hbB with h | h
  ·exact .inl (by omega)
  ·exact .inr h
theorem zgf(w:World):zal w (.slice none 0 0) []:=⟨none,0,0,0,rfl,fun h=>absurd h (by simp),fun _=>⟨rfl,rfl⟩,.inr rfl,fun i hi=>by simp at hi⟩
theorem zcf{w:World}{base e n:Nat}{v:Value}{l:List Op3}(h:w.ownsRow base e 3 v n (flat l))(hl:l.length=n):zal w v l:=by
 have h':=h;obtain⟨_,⟨hv,hd⟩ | ⟨g,cap,cur,hv,hb,hg,hn,hm,hsz,htk⟩⟩:=h'
 ·have:l=[]:=List.length_eq_zero_iff.1 (by omega);subst this;rw[hv];exact zgf w
 ·refine⟨some ⟨g,0,none⟩,g,0,cap,by rw[hl];exact hv,fun _=>rfl,fun h=>(by simp at h),.inl (h.lt g (by rw[hv];rfl)).2,zk1 fun j u hj=>?_⟩;have:=h.cells (g:=g) (by rw[hv];rfl) j u hj;rw[Addr.add_lit]at this;exact this
theorem zjN(l:List Op3)(v:Value)(w:World)(h:zal w v l):Calls Tryz.prog 81 #[v] w fun e w'=>e=.returned (.tuple #[.int .i64 (chk l).1,znR (chk l).2])/\Below w.heap.size w w':=by obtain⟨ad,b,off,cap,rfl,ha,_,hbB,hops⟩:=h;exact zjk l ad b off cap w ha hbB hops
theorem check_ok(l:List Op3)(v:Value)(w:World)(h:zal w v l)(hc:(chk l).2=0):Calls Tryz.prog 81 #[v] w fun e w'=>e=.returned (.tuple #[.int .i64 (chk l).1,.nilIface])/\Below w.heap.size w w':=by refine(zjN l v w h).mono ?_;rintro e w' ⟨he,hb⟩;rw[hc]at he;exact⟨he,hb⟩
theorem check_bad(l:List Op3)(v:Value)(w:World)(h:zal w v l)(hc:(chk l).2≠0):Calls Tryz.prog 81 #[v] w fun e w'=>e=.returned (.tuple #[.int .i64 (chk l).1,.iface 80 (.int .i64 (chk l).2)])/\Below w.heap.size w w':=by refine(zjN l v w h).mono ?_;rintro e w' ⟨he,hb⟩;rw[znb hc]at he;exact⟨he,hb⟩
theorem zhX(w:World)(t a i:Int):∀j u,(flat [(t,a,i)])[j]? = some u->(w.alloc (.cells #[.int .i64 t,.int .i64 a,.int .i64 i] 103)).cell? ((⟨w.heap.size,0,none⟩:Addr).add j)=some u:=by
 intro j u hj
 match j,hj with
 | 0,hj=>simp[flat]at hj;subst hj;simp[Addr.add]
 | 1,hj=>simp[flat]at hj;subst hj;simp[Addr.add]
 | 2,hj=>simp[flat]at hj;subst hj;simp[Addr.add]
 | k+3,hj=>simp[flat]at hj
end Go.Proofs.YthlhgiihngcobaaGreatDoor
namespace Go.Proofs.YthlhgiihngcobaaGreatDoor
open Go.RowKit
theorem isOf1_any(t a i tx:Int)(c:Nat)(w:World)(hc:w.cell? ⟨c,0,none⟩=some (.int .i64 tx))(hcl:c<w.heap.size):Calls Tryz.prog 184 #[.agg #[.int .i64 t,.int .i64 a,.int .i64 i],.pointer (some ⟨c,0,none⟩)] w fun e w'=>e=.returned (.bool (t == tx))/\w'=w.alloc (.cells #[.int .i64 t,.int .i64 a,.int .i64 i] 103):=by go_enter Tryz.func184,Tryz.ntmps184;go_wp2;go_ret;exact⟨rfl,rfl⟩
theorem done1_any(t a i:Int)(c:Nat)(f:Nat->Bool)(w:World)(hc:∀j,j<7->w.cell? ⟨c,j,none⟩=some (.bool (f j)))(hcl:c<w.heap.size)(ht:1<=t)(ht6:t<=6):Calls Tryz.prog 119 #[.agg #[.int .i64 t,.int .i64 a,.int .i64 i],.pointer (some ⟨c,0,none⟩)] w fun e w'=>e=.returned (.bool (f t.toNat))/\w'=w.alloc (.cells #[.int .i64 t,.int .i64 a,.int .i64 i] 103):=by have hc':=hc t.toNat (by omega);clear hc;go_enter Tryz.func119,Tryz.ntmps119;go_wp2;go_ret;exact⟨rfl,rfl⟩
theorem zbM(q:Op3->Bool)(l:List Op3)(k:Nat)(o:Op3)(h:l.take (k+1)=l.take k++[o]):(l.take (k+1)).filter q=(l.take k).filter q++(if q o then[o]else[]):=by rw[h,List.filter_append];cases hq:q o <;> simp[hq]
theorem zhW(q:Op3->Bool)(l:List Op3)(k:Nat):((l.take k).filter q).length<=k:=by have h1:=List.length_filter_le q (l.take k);have h2:(l.take k).length<=k:=List.length_take_le _ _;omega
theorem zmO(l:List Op3)(ad:Option Addr)(b off cap:Nat)(c:Nat)(tx:Int)(w:World)(hlen:l.length<=140737488351)(ha:0<l.length->ad=some ⟨b,off,none⟩)(hbB:b<w.heap.size\/l=[])(hops:zdw w b off l)(hc:w.cell? ⟨c,0,none⟩=some (.int .i64 tx))(hcl:c<w.heap.size):Calls Tryz.prog 118 #[.slice ad l.length cap,.func (.func 184) #[] #[.pointer (some ⟨c,0,none⟩)]] w fun e w'=>∃v,e=.returned v/\zal w' v (l.filter (fun o:Op3=>o.1 == tx))/\Below w.heap.size w w':=by
 go_enter Tryz.func118,Tryz.ntmps118;go_wp2
 go_loopw [5,10] (fun v5 v10 wr=>∃k:Nat,k<=l.length/\v10=.int .i64 k/\wr.ownsRow w.heap.size 103 3 v5 ((l.take k).filter (fun o:Op3=>o.1 == tx)).length (flat ((l.take k).filter (fun o:Op3=>o.1 == tx)))/\Below w.heap.size w wr) (fun _ v10 _=>l.length-(intOf v10).toNat)
 case atStart=>exact⟨0,Nat.zero_le _,rfl,World.ownsRow_nil _ _ _ _,Below.refl _ _⟩
 case round =>
  obtain⟨k,hk,rfl,hown,hbel⟩:=hrel;by_cases hlt:k<l.length
  ·obtain rfl:=ha (by omega);obtain⟨c0,c1,c2⟩:=hops k hlt
   have hb1:b<w.heap.size:=by
    rcases hbB with h | h
    ·exact h
    ·subst h;simp at hlt
   rw[<-hbel.cell (p:=⟨b,off+k*3,none⟩) hb1]at c0;rw[<-hbel.cell (p:=⟨b,off+k*3+1,none⟩) hb1]at c1;rw[<-hbel.cell (p:=⟨b,off+k*3+2,none⟩) hb1]at c2;obtain⟨⟨t,a,i⟩,ho⟩:∃o:Op3,l.getD k (0,0,0)=o:=⟨_,rfl⟩;rw[ho]at c0 c1 c2;have HT:Hid (l.take (k+1)=l.take k++[(t,a,i)]):=by show l.take (k+1)=l.take k++[(t,a,i)];rw[List.take_succ_eq_append_getElem hlt,<-ho];simp[List.getD,List.getElem?_eq_getElem hlt]
   have hsz:=hbel.size;rw[<-hbel.cell (p:=⟨c,0,none⟩) hcl]at hc;have hkl:=zhW (fun o:Op3=>o.1 == tx) l k;clear ho hops ha hbB;simp only at c0 c1 c2;cases hq:(fun o:Op3=>o.1 == tx) (t,a,i)with
   | false =>
     have HQ:Hid ((fun o:Op3=>o.1 == tx) (t,a,i)=false):=hq;simp only at hq;go_wp2_with (go_at_call 184;refine(isOf1_any t a i tx c _ (by simpa[World.cell?_alloc_lt,show c<wr.heap.size by omega]using hc) (by simp;omega)).mono ?_;rintro e w' ⟨rfl,rfl⟩);go_roundw
     case rel=>exact⟨k+1,by omega,by go_num,by rw[zbM _ l k _ HT.out,HQ.out];simpa using (hown.alloc _).alloc _,(hbel.alloc (by omega) _).alloc (by simp;omega) _⟩
     case measure=>simp[intOf];omega
   | true =>
     have HQ:Hid ((fun o:Op3=>o.1 == tx) (t,a,i)=true):=hq;simp only at hq;obtain⟨i0,hi,hz0,hs0,hy0⟩:=info_parts zh0;have HI:Hid (Tryz.prog.info? 103=some i0/\i0.zero=some (.agg #[.int .i64 0,.int .i64 0,.int .i64 0])/\i0.size=3/\i0.bytes=24):=⟨hi,hz0,hs0,hy0⟩;clear hi hz0 hs0 hy0;go_wp2_with (first | (go_at_call 184;refine(isOf1_any t a i tx c _ (by simpa[World.cell?_alloc_lt,show c<wr.heap.size by omega]using hc) (by simp;omega)).mono ?_;rintro e w' ⟨rfl,rfl⟩) | (at_builtin;refine wpList_append_own _ rfl (.tmp 17) (.tmp 19) 28 rfl w.heap.size 103 i0 (.agg #[.int .i64 0,.int .i64 0,.int .i64 0]) 3 24 Tryz.underlying28 HI.out.1 HI.out.2.1 HI.out.2.2.1 HI.out.2.2.2 rfl (by decide) u5 ((l.take k).filter (fun o:Op3=>o.1 == tx)).length (flat ((l.take k).filter (fun o:Op3=>o.1 == tx))) rfl (((hown.alloc _).alloc _).alloc _) ⟨wr.heap.size+1+1,0,none⟩ 1 1 (flat [(t,a,i)]) rfl rfl (by have:=zhX ((wr.alloc (.cells #[.int .i64 t,.int .i64 a,.int .i64 i] 103)).alloc (.cells #[.int .i64 t,.int .i64 a,.int .i64 i] 103)) t a i;simpa using this) (zcY _) (by unfold maxLen;omega) (by omega) (by simp;omega) ?_;intro v' w1 hown1 hgr1 hnil1));have hB1:=(((hbel.alloc hsz _).alloc (by simp;omega) _).alloc (by simp;omega) _).grown hgr1 (by simp;omega) (fun m hm=>(hown.lt m hm).1);go_roundw
     case rel=>exact⟨k+1,by omega,by go_num,by rw[zbM _ l k _ HT.out,HQ.out];simpa[zbj]using hown1,hB1⟩
     case measure=>simp[intOf];omega
  ·go_wp2;go_ret;exact⟨_,rfl,by rw[List.take_of_length_le (by omega)]at hown;exact zcf hown rfl,hbel⟩
theorem zjl(l:List Op3)(ad:Option Addr)(b off cap:Nat)(c:Nat)(f:Nat->Bool)(hin:∀o∈l,1<=o.1/\o.1<=6)(w:World)(hlen:l.length<=140737488351)(ha:0<l.length->ad=some ⟨b,off,none⟩)(hbB:b<w.heap.size\/l=[])(hops:zdw w b off l)(hc:∀j,j<7->w.cell? ⟨c,j,none⟩=some (.bool (f j)))(hcl:c<w.heap.size):Calls Tryz.prog 118 #[.slice ad l.length cap,.func (.func 119) #[] #[.pointer (some ⟨c,0,none⟩)]] w fun e w'=>∃v,e=.returned v/\zal w' v (l.filter (fun o:Op3=>f o.1.toNat))/\Below w.heap.size w w':=by
 go_enter Tryz.func118,Tryz.ntmps118;go_wp2
 go_loopw [5,10] (fun v5 v10 wr=>∃k:Nat,k<=l.length/\v10=.int .i64 k/\wr.ownsRow w.heap.size 103 3 v5 ((l.take k).filter (fun o:Op3=>f o.1.toNat)).length (flat ((l.take k).filter (fun o:Op3=>f o.1.toNat)))/\Below w.heap.size w wr) (fun _ v10 _=>l.length-(intOf v10).toNat)
 case atStart=>exact⟨0,Nat.zero_le _,rfl,World.ownsRow_nil _ _ _ _,Below.refl _ _⟩
 case round =>
  obtain⟨k,hk,rfl,hown,hbel⟩:=hrel;by_cases hlt:k<l.length
  ·obtain rfl:=ha (by omega);obtain⟨c0,c1,c2⟩:=hops k hlt
   have hb1:b<w.heap.size:=by
    rcases hbB with h | h
    ·exact h
    ·subst h;simp at hlt
   rw[<-hbel.cell (p:=⟨b,off+k*3,none⟩) hb1]at c0;rw[<-hbel.cell (p:=⟨b,off+k*3+1,none⟩) hb1]at c1;rw[<-hbel.cell (p:=⟨b,off+k*3+2,none⟩) hb1]at c2;obtain⟨⟨t,a,i⟩,ho⟩:∃o:Op3,l.getD k (0,0,0)=o:=⟨_,rfl⟩;rw[ho]at c0 c1 c2;have hto:=hin (t,a,i) (by rw[<-ho];simp[List.getD,List.getElem?_eq_getElem hlt]);have HT:Hid (l.take (k+1)=l.take k++[(t,a,i)]):=by show l.take (k+1)=l.take k++[(t,a,i)];rw[List.take_succ_eq_append_getElem hlt,<-ho];simp[List.getD,List.getElem?_eq_getElem hlt]
   have hsz:=hbel.size;have hcw:∀j,j<7->wr.cell? ⟨c,j,none⟩=some (.bool (f j)):=fun j hj=>by rw[hbel.cell (p:=⟨c,j,none⟩) hcl];exact hc j hj
   have HCW:Hid (∀j,j<7->wr.cell? ⟨c,j,none⟩=some (.bool (f j))):=hcw;have HC0:Hid (∀j,j<7->w.cell? ⟨c,j,none⟩=some (.bool (f j))):=hc;clear hcw hc;obtain⟨ht1,ht6⟩:=hto;simp only at ht1 ht6;have hkl:=zhW (fun o:Op3=>f o.1.toNat) l k;clear ho hops ha hbB;simp only at c0 c1 c2;cases hq:(fun o:Op3=>f o.1.toNat) (t,a,i)with
   | false =>
     have HQ:Hid ((fun o:Op3=>f o.1.toNat) (t,a,i)=false):=hq;simp only at hq;go_wp2_with (go_at_call 119;refine(done1_any t a i c f _ (fun j hj=>by rw[World.cell?_alloc_lt _ _ ⟨c,j,none⟩ (by simp;omega)];exact HCW.out j hj) (by simp;omega) ht1 ht6).mono ?_;rintro e w' ⟨rfl,rfl⟩);go_roundw
     case rel=>exact⟨k+1,by omega,by go_num,by rw[zbM _ l k _ HT.out,HQ.out];simpa using (hown.alloc _).alloc _,(hbel.alloc (by omega) _).alloc (by simp;omega) _⟩
     case measure=>simp[intOf];omega
   | true =>
     have HQ:Hid ((fun o:Op3=>f o.1.toNat) (t,a,i)=true):=hq;simp only at hq;obtain⟨i0,hi,hz0,hs0,hy0⟩:=info_parts zh0;have HI:Hid (Tryz.prog.info? 103=some i0/\i0.zero=some (.agg #[.int .i64 0,.int .i64 0,.int .i64 0])/\i0.size=3/\i0.bytes=24):=⟨hi,hz0,hs0,hy0⟩;clear hi hz0 hs0 hy0;go_wp2_with (first | (go_at_call 119;refine(done1_any t a i c f _ (fun j hj=>by rw[World.cell?_alloc_lt _ _ ⟨c,j,none⟩ (by simp;omega)];exact HCW.out j hj) (by simp;omega) ht1 ht6).mono ?_;rintro e w' ⟨rfl,rfl⟩) | (at_builtin;refine wpList_append_own _ rfl (.tmp 17) (.tmp 19) 28 rfl w.heap.size 103 i0 (.agg #[.int .i64 0,.int .i64 0,.int .i64 0]) 3 24 Tryz.underlying28 HI.out.1 HI.out.2.1 HI.out.2.2.1 HI.out.2.2.2 rfl (by decide) u5 ((l.take k).filter (fun o:Op3=>f o.1.toNat)).length (flat ((l.take k).filter (fun o:Op3=>f o.1.toNat))) rfl (((hown.alloc _).alloc _).alloc _) ⟨wr.heap.size+1+1,0,none⟩ 1 1 (flat [(t,a,i)]) rfl rfl (by have:=zhX ((wr.alloc (.cells #[.int .i64 t,.int .i64 a,.int .i64 i] 103)).alloc (.cells #[.int .i64 t,.int .i64 a,.int .i64 i] 103)) t a i;simpa using this) (zcY _) (by unfold maxLen;omega) (by omega) (by simp;omega) ?_;intro v' w1 hown1 hgr1 hnil1));have hB1:=(((hbel.alloc hsz _).alloc (by simp;omega) _).alloc (by simp;omega) _).grown hgr1 (by simp;omega) (fun m hm=>(hown.lt m hm).1);go_roundw
     case rel=>exact⟨k+1,by omega,by go_num,by rw[zbM _ l k _ HT.out,HQ.out];simpa[zbj]using hown1,hB1⟩
     case measure=>simp[intOf];omega
  ·go_wp2;go_ret;exact⟨_,rfl,by rw[List.take_of_length_le (by omega)]at hown;exact zcf hown rfl,hbel⟩
end Go.Proofs.YthlhgiihngcobaaGreatDoor
namespace Go.Proofs.YthlhgiihngcobaaGreatDoor
open Go.RowKit
def za3(l:List Op3)(t:Nat):Bool:=l.any fun o=>o.1 == (t:Int) && o.2.1 == 3
def doneL(l:List Op3):List Op3:=l.filter fun o=>za3 l o.1.toNat
def ofL(l:List Op3)(tx:Int):List Op3:=l.filter fun o=>o.1 == tx
theorem zen(l:List Op3)(o:Op3)(t:Nat):za3 (l++[o]) t=(za3 l t || (o.1 == (t:Int) && o.2.1 == 3)):=by simp[za3]
theorem zaN{l:List Op3}(h:(chk l).2=0):l.length<=40:=by
 unfold chk at h;split at h
 ·simp at h
 ·omega
theorem chk_ops{l:List Op3}(h:(chk l).2=0):∀o∈l,isOpB o=true:=by rw[zcV l (zaN h)]at h;exact zg0 l [] h
def zca(w:World)(B:Nat)(l:List Op3):Prop:=∀j,j<7->w.cell? ⟨B,j,none⟩=some (.bool (za3 l j))/\w.frozen? ⟨B,j,none⟩=false
theorem zca.lt{w:World}{B:Nat}{l:List Op3}(h:zca w B l):B<w.heap.size:=World.block_lt_of_cell? w _ (h 0 (by omega)).1
theorem zh3(l:List Op3)(w:World):zca (w.alloc (.cells #[.bool false,.bool false,.bool false,.bool false,.bool false,.bool false,.bool false] 25)) w.heap.size (List.take 0 l):=by
 intro j hj
 match j,hj with
 | 0,_=>exact⟨by simp[za3],by simp⟩
 | 1,_=>exact⟨by simp[za3],by simp⟩
 | 2,_=>exact⟨by simp[za3],by simp⟩
 | 3,_=>exact⟨by simp[za3],by simp⟩
 | 4,_=>exact⟨by simp[za3],by simp⟩
 | 5,_=>exact⟨by simp[za3],by simp⟩
 | 6,_=>exact⟨by simp[za3],by simp⟩
theorem zca.same{w:World}{B:Nat}{l:List Op3}{t a i:Int}(h:zca w B l)(ha:a≠3)(o1:Obj):zca (w.alloc o1) B (l++[(t,a,i)]):=by
 have hlt:=h.lt;intro j hj;obtain⟨hc,hf⟩:=h j hj;constructor
 ·rw[World.cell?_alloc_lt _ _ ⟨B,j,none⟩ hlt,zen,hc];simp[ha]
 ·rw[World.frozen?_alloc_old _ _ ⟨B,j,none⟩ (by simp;omega)];exact hf
theorem zca.step{w:World}{B:Nat}{l:List Op3}{t i:Int}(h:zca w B l)(h1:1<=t)(h6:t<=6)(o1:Obj):zca ((w.setCell ⟨B,t.toNat,none⟩ (.bool true)).alloc o1) B (l++[(t,3,i)]):=by
 have hlt:=h.lt;intro j hj;obtain⟨hc,hf⟩:=h j hj;obtain⟨hct,_⟩:=h t.toNat (by omega);constructor
 ·rw[World.cell?_alloc_lt _ _ ⟨B,j,none⟩ (by simp;omega),zen];by_cases hjt:j=t.toNat
  ·subst hjt;rw[World.cell?_setCell_same _ _ _ hct,show((t.toNat:Nat):Int)=t by omega];simp
  ·rw[World.cell?_setCell_other _ _ _ _ (by intro he;injection he with _ he2 _;exact hjt he2.symm),hc];have:(t == (j:Int))=false:=by simp;omega
   simp[this]
 ·rw[World.frozen?_alloc_old _ _ ⟨B,j,none⟩ (by simp;omega)];simpa using hf
theorem done_ok(l:List Op3)(v:Value)(w:World)(h:zal w v l)(hc:(chk l).2=0):Calls Tryz.prog 51 #[v] w fun e w'=>∃v',e=.returned (.tuple #[v',.nilIface])/\zal w' v' (doneL l)/\Below w.heap.size w w':=by
 have hl40:=zaN hc;have hopsv:=chk_ops hc;have HV:Hid (∀o∈l,isOpB o=true):=hopsv;clear hopsv;have hI:=h;obtain⟨ad,b,off,cap,rfl,ha,hn,hbB,hops⟩:=h;go_enter Tryz.func51,Tryz.ntmps51;go_wp2_with (go_at_call 81;refine(check_ok l _ _ hI hc).mono ?_;rintro e w1 ⟨rfl,hb1⟩)
 go_loopw [19] (fun v19 wr=>∃k:Nat,k<=l.length/\v19=.int .i64 k/\zca wr w1.heap.size (l.take k)/\Below w1.heap.size w1 wr) (fun v19 _=>l.length-(intOf v19).toNat)
 case atStart=>exact⟨0,Nat.zero_le _,rfl,zh3 l w1,(Below.refl _ _).alloc (Nat.le_refl _) _⟩
 case round =>
  obtain⟨k,hk,rfl,hcm,hbel⟩:=hrel;have hs1:=hb1.size;have hsz:w1.heap.size<wr.heap.size:=hcm.lt;by_cases hlt:k<l.length
  ·obtain rfl:=ha (by omega);obtain⟨c0,c1,c2⟩:=hops k hlt
   have hb0:b<w.heap.size:=by
    rcases hbB with h | h
    ·exact h
    ·subst h;simp at hlt
   rw[<-hb1.cell (p:=⟨b,off+k*3,none⟩) hb0,<-hbel.cell (p:=⟨b,off+k*3,none⟩) (by simp;omega)]at c0;rw[<-hb1.cell (p:=⟨b,off+k*3+1,none⟩) hb0,<-hbel.cell (p:=⟨b,off+k*3+1,none⟩) (by simp;omega)]at c1;rw[<-hb1.cell (p:=⟨b,off+k*3+2,none⟩) hb0,<-hbel.cell (p:=⟨b,off+k*3+2,none⟩) (by simp;omega)]at c2;obtain⟨⟨t,a,i⟩,ho⟩:∃o:Op3,l.getD k (0,0,0)=o:=⟨_,rfl⟩;rw[ho]at c0 c1 c2;have hto:=zaG (HV.out (t,a,i) (by rw[<-ho];simp[List.getD,List.getElem?_eq_getElem hlt]));have HT:Hid (l.take (k+1)=l.take k++[(t,a,i)]):=by show l.take (k+1)=l.take k++[(t,a,i)];rw[List.take_succ_eq_append_getElem hlt,<-ho];simp[List.getD,List.getElem?_eq_getElem hlt]
   obtain⟨ht1,ht6⟩:=hto;clear ho hops ha hbB hn hI hc;simp only at c0 c1 c2 ht1 ht6;by_cases h3:a=3
   ·subst h3;obtain⟨hc1,hc2⟩:=hcm t.toNat (by omega);go_wp2;go_roundw
    case rel=>exact⟨k+1,by omega,by go_num,by rw[HT.out];exact hcm.step ht1 ht6 _,(hbel.setCell (by simp) _).alloc (by simp;omega) _⟩
    case measure=>simp[intOf];omega
   ·have h3':(a == 3)=false:=by simpa using h3
    have H3:Hid (a≠3):=h3;clear h3;go_wp2;go_roundw
    case rel=>exact⟨k+1,by omega,by go_num,by rw[HT.out];exact hcm.same H3.out _,hbel.alloc (by omega) _⟩
    case measure=>simp[intOf];omega
  ·have hcm':zca wr w1.heap.size l:=by rw[List.take_of_length_le (by omega)]at hcm;exact hcm
   have hbw:Below w.heap.size w wr:=hb1.trans (hbel.mono hs1);go_wp2_with (go_at_call 118;refine(zjl l ad b off cap w1.heap.size (za3 l) (fun o ho=>zaG (HV.out o ho)) _ (by omega) ha (by rcases hbB with h | h;exact .inl (by omega);exact .inr h) (hops.below hbw hbB) (fun j hj=>(hcm' j hj).1) hsz).mono ?_;rintro e w2 ⟨v2,rfl,hI2,hb2⟩);go_ret2;exact⟨_,rfl,hI2,hbw.trans (hb2.mono hbw.size)⟩
theorem zok(l:List Op3)(v:Value)(tx:Int)(w:World)(h:zal w v l)(hc:(chk l).2=0)(h1:1<=tx)(h6:tx<=6):Calls Tryz.prog 126 #[v,.int .i64 tx] w fun e w'=>∃v',e=.returned (.tuple #[v',.nilIface])/\zal w' v' (ofL l tx)/\Below w.heap.size w w':=by have hl40:=zaN hc;have hI:=h;obtain⟨ad,b,off,cap,rfl,ha,hn,hbB,hops⟩:=h;go_enter Tryz.func126,Tryz.ntmps126;go_wp2_with (first | (go_at_call 81;refine(check_ok l _ _ hI hc).mono ?_;rintro e w1 ⟨rfl,hb1⟩;have hs1:=hb1.size) | (go_at_call 118;refine(zmO l ad b off cap w1.heap.size tx _ (by omega) ha (by rcases hbB with h | h;exact .inl (by simp;omega);exact .inr h) ((hops.below hb1 hbB).below ((Below.refl w1.heap.size w1).alloc (Nat.le_refl _) _) (by rcases hbB with h | h;exact .inl (by omega);exact .inr h)) (by simp) (by simp)).mono ?_;rintro e w2 ⟨v2,rfl,hI2,hb2⟩) | go_in);go_ret2;exact⟨_,rfl,hI2,(hb1.alloc (by omega) _).trans (hb2.mono (by simp;omega))⟩
end Go.Proofs.YthlhgiihngcobaaGreatDoor
