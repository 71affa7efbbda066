/-
  PROVED HERE: slices.IndexFunc and slices.ContainsFunc over a slice of locks, for any closure; package locks' small functions and closures; locks.Table's methods hold and take, over a table in memory; locks.Table's method take, over a table in memory.
  Conditions: none but those that each theorem's own premises say.
-/
import Derived.Test.YthlhgiihngcobaaGreatDoorMgbh
set_option maxHeartbeats 32000000
set_option maxRecDepth 100000
namespace Go.Proofs.YthlhgiihngcobaaGreatDoor
open Go.RowKit
theorem zrD{q:Op3->Bool}{l:List Op3}{k:Nat}{e:Op3}(h:l.take (k+1)=l.take k++[e])(h1:(l.take k).any q=false)(h2:q e=false):(l.take (k+1)).any q=false:=by rw[h,List.any_append,h1];simp[h2]
def zc0(l:List Op3)(q:Op3->Bool)(n:Int):Prop:=(n=-1/\l.any q=false)\/∃k:Nat,n=k/\k<l.length/\q (opAt l k)=true/\(l.take k).any q=false
theorem zc0.sign{l:List Op3}{q:Op3->Bool}{n:Int}(h:zc0 l q n):decide (0<=n)=l.any q:=by
 rcases h with⟨rfl,h⟩ | ⟨k,rfl,hk,hq,_⟩
 ·rw[h];rfl
 ·have:l.any q=true:=List.any_eq_true.2 ⟨_,zal hk,hq⟩;rw[this];simp
theorem zc0.none{l:List Op3}{q:Op3->Bool}(h:l.any q=false):zc0 l q (-1):=.inl ⟨rfl,h⟩
theorem zc0.some{l:List Op3}{q:Op3->Bool}{k:Nat}{e:Op3}(hk:k<l.length)(he:opAt l k=e)(hq:q e=true)(h:(l.take k).any q=false):zc0 l q (k:Int):=.inr ⟨k,rfl,hk,by rw[he];exact hq,h⟩
theorem zgN{l:List Op3}{q:Op3->Bool}{k j:Nat}(h:(l.take k).any q=false)(hj:j<k)(hk:k<=l.length):q (opAt l j)=false:=by
 have hm:opAt l j∈l.take k:=by rw[List.mem_iff_getElem];exact⟨j,by simp;omega,by simp[opAt,List.getD,List.getElem?_eq_getElem (show j<l.length by omega)]⟩
 simpa using List.any_eq_false.1 h _ hm
theorem zeB(l:List Op3)(v:Value)(q:Op3->Bool)(N:Nat)(C:Array Value)(w:World)(hcall:∀(args:Array Value) (W:World),(callFunc N args).run Tryz.prog W=.ok (.enter N args) W)(hI:zai w v l)(hlen:l.length<=140737488351)
  (hp:∀W:World,Below w.heap.size w W->∀e∈l,Calls Tryz.prog N (#[lkV e]++C) W fun r w'=>r=.returned (.bool (q e))/\Below W.heap.size W w') :
  Calls Tryz.prog 258 #[v,.func (.func N) #[] C] w fun r w'=>∃n:Int,r=.returned (.int .i64 n)/\zc0 l q n/\Below w.heap.size w w':=by
 obtain⟨ad,b,off,cap,rfl,ha,_,hbB,hops⟩:=hI;have HO:Hid (∀W,Below w.heap.size w W->∀k,k<l.length->ad=some ⟨b,off,none⟩/\W.cell? ⟨b,off+k*3,none⟩=some (.int .i64 (opAt l k).1)/\W.cell? ⟨b,off+k*3+1,none⟩=some (.int .i64 (opAt l k).2.1)/\W.cell? ⟨b,off+k*3+2,none⟩=some (.int .i64 (opAt l k).2.2)):=fun W hW k hk=>⟨ha (by omega),(hops.below hW hbB) k hk⟩;have HP:Hid (∀W:World,Below w.heap.size w W->∀e∈l,Calls Tryz.prog N (#[lkV e]++C) W fun r w'=>r=.returned (.bool (q e))/\Below W.heap.size W w'):=hp;clear ha hbB hops hp;go_enter Tryz.func258,Tryz.ntmps258;go_wp2
 go_loopw [8] (fun v8 wr=>∃k:Nat,k<=l.length/\v8=.int .i64 k/\(l.take k).any q=false/\Below w.heap.size w wr) (fun v8 _=>l.length-(intOf v8).toNat)
 case atStart=>exact⟨0,Nat.zero_le _,rfl,by simp,Below.refl _ _⟩
 case round =>
  obtain⟨k,hk,rfl,hno,hbel⟩:=hrel;have HNO:Hid ((l.take k).any q=false):=hno;clear hno;have hsz:=hbel.size;by_cases hlt:k<l.length
  ·have hlt':(k:Int)<(l.length:Int):=by omega
   obtain⟨rfl,c0,c1,c2⟩:=HO.out wr hbel k hlt;obtain⟨⟨t,a,i⟩,ho⟩:∃o:Op3,opAt l k=o:=⟨_,rfl⟩;rw[ho]at c0 c1 c2;have hmem:(t,a,i)∈l:=by rw[<-ho];exact zal hlt
   have HT:Hid (l.take (k+1)=l.take k++[(t,a,i)]):=by show l.take (k+1)=l.take k++[(t,a,i)];rw[List.take_succ_eq_append_getElem hlt,<-ho];simp[opAt,List.getD,List.getElem?_eq_getElem hlt]
   have HM:Hid ((t,a,i)∈l):=hmem;have HG:Hid (opAt l k=(t,a,i)):=ho;clear ho HO hmem;simp only at c0 c1 c2;cases hq:q (t,a,i)with
   | false =>
     have HQ:Hid (q (t,a,i)=false):=hq;have HC:Hid (Calls Tryz.prog N (#[.agg #[.int .i64 t,.int .i64 a,.int .i64 i]]++C) wr fun r w'=>r=.returned (.bool false)/\Below wr.heap.size wr w'):=hq ▸HP.out wr hbel _ HM.out;clear hq;go_wp2_with fail;refine HC.out.mono ?_;rintro e w1 ⟨rfl,hb1⟩;go_wp2_with fail;go_roundw
     case rel=>exact⟨k+1,by omega,by go_num,zrD HT.out HNO.out HQ.out,hbel.trans (hb1.mono hsz)⟩
     case measure=>simp[intOf];omega
   | true =>have HQ:Hid (q (t,a,i)=true):=hq;have HC:Hid (Calls Tryz.prog N (#[.agg #[.int .i64 t,.int .i64 a,.int .i64 i]]++C) wr fun r w'=>r=.returned (.bool true)/\Below wr.heap.size wr w'):=hq ▸HP.out wr hbel _ HM.out;clear hq;go_wp2_with fail;refine HC.out.mono ?_;rintro e w1 ⟨rfl,hb1⟩;go_wp2_with fail;go_ret;exact⟨_,rfl,zc0.some hlt HG.out HQ.out HNO.out,hbel.trans (hb1.mono hsz)⟩
  ·have hlt':¬(k:Int)<(l.length:Int):=by omega
   go_wp2_with fail;go_ret;refine⟨_,rfl,zc0.none ?_,hbel⟩;have h0:=HNO.out;rw[List.take_of_length_le (by omega)]at h0;exact h0
theorem zby(l:List Op3)(v:Value)(q:Op3->Bool)(N:Nat)(C:Array Value)(w:World)(hcall:∀(args:Array Value) (W:World),(callFunc N args).run Tryz.prog W=.ok (.enter N args) W)(hI:zai w v l)(hlen:l.length<=140737488351)
  (hp:∀W:World,Below w.heap.size w W->∀e∈l,Calls Tryz.prog N (#[lkV e]++C) W fun r w'=>r=.returned (.bool (q e))/\Below W.heap.size W w') :
  Calls Tryz.prog 224 #[v,.func (.func N) #[] C] w fun r w'=>r=.returned (.bool (l.any q))/\Below w.heap.size w w':=by
 have HC:Hid (Calls Tryz.prog 258 #[v,.func (.func N) #[] C] w fun r w'=>∃n:Int,r=.returned (.int .i64 n)/\zc0 l q n/\Below w.heap.size w w'):=zeB l v q N C w hcall hI hlen hp;clear hp hI hcall;go_enter Tryz.func224,Tryz.ntmps224;go_wp2_with (go_at_call 258;refine HC.out.mono ?_;rintro e w1 ⟨n,rfl,hn,hb1⟩;have hn1:=hn.sign;clear hn);all_goals go_ret
 all_goals exact⟨ret_bool (by simp_all),hb1⟩
end Go.Proofs.YthlhgiihngcobaaGreatDoor
namespace Go.Proofs.YthlhgiihngcobaaGreatDoor
open Go.RowKit
def zd3(y x:Op3):Bool:=y.1 != x.1 && (y.2.1 == x.2.1 && !(y.2.2 == 1 && x.2.2 == 1))
def hasP(y x:Op3):Bool:=zb0 y x && (y.2.2 == x.2.2 || y.2.2 == 2)
theorem zkp{y x:Op3}(hy:zak y=true)(hx:zak x=true):zd3 y x=zgM y x:=by
 unfold zd3 zgM;have h1:y.2.2=1\/y.2.2=2:=by simp[zak]at hy;exact hy.2.2
 have h2:x.2.2=1\/x.2.2=2:=by simp[zak]at hx;exact hx.2.2
 rcases h1 with h1 | h1 <;> rcases h2 with h2 | h2 <;> rw[h1,h2] <;> rfl
theorem zzQ{l:List Op3}{x:Op3}(hl:∀y∈l,zak y=true)(hx:zak x=true):l.any (fun y=>hasP y x)=zvW l x:=by
 unfold zvW;rw[Bool.eq_iff_iff,List.any_eq_true,List.any_eq_true]
 have key:∀y∈l,hasP y x=(y.1 == x.1 && (y.2.1 == x.2.1 && decide (x.2.2<=y.2.2))):=fun y hy=>by
  have hy':=hl y hy;have h1:y.2.2=1\/y.2.2=2:=by simp[zak]at hy';exact hy'.2.2
  have h2:x.2.2=1\/x.2.2=2:=by simp[zak]at hx;exact hx.2.2
  unfold hasP zb0;rcases h1 with h1 | h1 <;> rcases h2 with h2 | h2 <;> rw[h1,h2,Bool.and_assoc] <;> rfl
 exact⟨fun⟨y,hy,h⟩=>⟨y,hy,key y hy ▸h⟩,fun⟨y,hy,h⟩=>⟨y,hy,(key y hy).symm ▸h⟩⟩
theorem zmp{l:List Op3}{x:Op3}(hl:∀y∈l,zak y=true)(hx:zak x=true):l.any (fun y=>zd3 y x)=!zbC l x:=by
 unfold zbC;rw[List.not_all_eq_any_not,Bool.eq_iff_iff,List.any_eq_true,List.any_eq_true];have key:∀y∈l,zd3 y x=!!zgM y x:=fun y hy=>by rw[zkp (hl y hy) hx,Bool.not_not]
 exact⟨fun⟨y,hy,h⟩=>⟨y,hy,key y hy ▸h⟩,fun⟨y,hy,h⟩=>⟨y,hy,(key y hy).symm ▸h⟩⟩
theorem pDeal_any(t:Int)(w:World):Calls Tryz.prog 256 #[.int .i64 t] w fun e w'=>e=.returned (.bool (decide (1<=t/\t<=6)))/\w'=w:=by
 go_enter Tryz.func256,Tryz.ntmps256;go_wp2;all_goals go_ret
 all_goals exact⟨ret_bool (by first | (simp_all;done) | (simp_all;omega)),by first | rfl | simp_all⟩
theorem pLock_raw(t i m:Int)(w:World):Calls Tryz.prog 223 #[.agg #[.int .i64 t,.int .i64 i,.int .i64 m]] w fun e w'=>e=.returned (.bool (zak (t,i,m)))/\Below w.heap.size w w':=by
 go_enter Tryz.func223,Tryz.ntmps223;go_wp2_with (go_at_call 256;refine(pDeal_any _ _).mono ?_;rintro e w' ⟨rfl,rfl⟩);all_goals go_ret
 all_goals exact⟨ret_bool (by first | (simp_all [zak];done) | (simp_all [zak];intros;omega)),by exact(Below.refl _ w).alloc (Nat.le_refl _) _⟩
theorem pSame_raw(t i m t2 i2 m2:Int)(w:World):Calls Tryz.prog 227 #[.agg #[.int .i64 t,.int .i64 i,.int .i64 m],.agg #[.int .i64 t2,.int .i64 i2,.int .i64 m2]] w fun e w'=>e=.returned (.bool (zb0 (t,i,m) (t2,i2,m2)))/\w'=(w.alloc (.cells #[.int .i64 t,.int .i64 i,.int .i64 m] 269)).alloc (.cells #[.int .i64 t2,.int .i64 i2,.int .i64 m2] 269):=by
 go_enter Tryz.func227,Tryz.ntmps227;go_wp2;all_goals go_ret
 all_goals exact⟨ret_bool (by first | (simp_all [zb0];done) | (simp_all [zb0];intros;omega)),by first | rfl | simp_all⟩
def za0(w:World)(P:Nat)(x:Op3):Prop:=w.cell? ⟨P,0,none⟩=some (.int .i64 x.1)/\w.cell? ⟨P,1,none⟩=some (.int .i64 x.2.1)/\w.cell? ⟨P,2,none⟩=some (.int .i64 x.2.2)
theorem za0.lt{w:World}{P:Nat}{x:Op3}(h:za0 w P x):P<w.heap.size:=World.block_lt_of_cell? w _ h.1
theorem za0.below{w w1:World}{P B:Nat}{x:Op3}(h:za0 w P x)(hb:Below B w w1)(hB:P<B):za0 w1 P x :=⟨(hb.cell (p:=⟨P,0,none⟩) hB).trans h.1,(hb.cell (p:=⟨P,1,none⟩) hB).trans h.2.1,(hb.cell (p:=⟨P,2,none⟩) hB).trans h.2.2⟩
theorem zbP(w:World)(t i m:Int)(T:TypeId):za0 (w.alloc (.cells #[.int .i64 t,.int .i64 i,.int .i64 m] T)) w.heap.size (t,i,m):=by refine⟨?_,?_,?_⟩ <;> simp
theorem ztb(o:Op3)(t:Int)(P:Nat)(w:World)(hc:w.cell? ⟨P,0,none⟩=some (.int .i64 t)):Calls Tryz.prog 259 #[lkV o,.pointer (some ⟨P,0,none⟩)] w fun e w'=>e=.returned (.bool (o.1 == t))/\Below w.heap.size w w':=by
 obtain⟨t2,i2,m2⟩:=o;have hP:P<w.heap.size:=World.block_lt_of_cell? w _ hc;go_enter Tryz.func259,Tryz.ntmps259;go_wp2;all_goals go_ret
 all_goals exact⟨rfl,(Below.refl _ w).alloc (Nat.le_refl _) _⟩
theorem zkg(o x:Op3)(P:Nat)(w:World)(hc:za0 w P x):Calls Tryz.prog 275 #[lkV o,.pointer (some ⟨P,0,none⟩)] w fun e w'=>e=.returned (.bool (zd3 o x))/\Below w.heap.size w w':=by
 obtain⟨t2,i2,m2⟩:=o;obtain⟨t,i,m⟩:=x;have hP:=hc.lt;obtain⟨c0,c1,c2⟩:=hc;simp only at c0 c1 c2;go_enter Tryz.func275,Tryz.ntmps275;go_wp2;all_goals go_ret
 all_goals exact⟨ret_bool (by first | (simp_all [zd3];done) | (simp_all [zd3];intros;omega)),(Below.refl _ w).alloc (Nat.le_refl _) _⟩
theorem zzC(o x:Op3)(P:Nat)(w:World)(hc:za0 w P x):Calls Tryz.prog 276 #[lkV o,.pointer (some ⟨P,0,none⟩)] w fun e w'=>e=.returned (.bool (zb0 o x))/\Below w.heap.size w w':=by
 obtain⟨t2,i2,m2⟩:=o;obtain⟨t,i,m⟩:=x;have hP:=hc.lt;obtain⟨c0,c1,c2⟩:=hc;simp only at c0 c1 c2;go_enter Tryz.func276,Tryz.ntmps276;go_wp2_with (go_at_call 227;refine(pSame_raw _ _ _ _ _ _ _).mono ?_;rintro e w' ⟨rfl,rfl⟩);all_goals go_ret
 all_goals exact⟨rfl,(((Below.refl _ w).alloc (Nat.le_refl _) _).alloc (by simp) _).alloc (by simp;omega) _⟩
theorem zrE(o x:Op3)(P:Nat)(w:World)(hc:za0 w P x):Calls Tryz.prog 226 #[lkV o,.pointer (some ⟨P,0,none⟩)] w fun e w'=>e=.returned (.bool (hasP o x))/\Below w.heap.size w w':=by
 obtain⟨t2,i2,m2⟩:=o;obtain⟨t,i,m⟩:=x;have hP:=hc.lt;obtain⟨c0,c1,c2⟩:=hc;simp only at c0 c1 c2;go_enter Tryz.func226,Tryz.ntmps226
 go_upto_region 1 with(fail)
 obtain⟨W,hW⟩:∃W,W=w.alloc (.cells #[.int .i64 t2,.int .i64 i2,.int .i64 m2] 269):=⟨_,rfl⟩;rw[<-hW];have hbW:Below w.heap.size w W:=by rw[hW];exact(Below.refl _ w).alloc (Nat.le_refl _) _
 obtain⟨p0,p1,p2⟩:za0 W w.heap.size (t2,i2,m2):=by rw[hW];exact zbP _ _ _ _ _
 simp only at p0 p1 p2;have d0:=(hbW.cell (p:=⟨P,0,none⟩) hP).trans c0;have d1:=(hbW.cell (p:=⟨P,1,none⟩) hP).trans c1;have d2:=(hbW.cell (p:=⟨P,2,none⟩) hP).trans c2;have hPW:w.heap.size<W.heap.size:=World.block_lt_of_cell? W _ p0;obtain⟨Q,hQ⟩:∃Q,Q=w.heap.size:=⟨_,rfl⟩;rw[<-hQ]at p0 p1 p2 hPW hP ⊢;have HQ:Hid (Q=w.heap.size):=hQ;have HB:Hid (Below w.heap.size w W):=hbW;have HS:Hid (∀W:World,Calls Tryz.prog 227 #[.agg #[.int .i64 t2,.int .i64 i2,.int .i64 m2],.agg #[.int .i64 t,.int .i64 i,.int .i64 m]] W fun e w'=>e=.returned (.bool (zb0 (t2,i2,m2) (t,i,m)))/\Below W.heap.size W w'):=fun W=>(pSame_raw _ _ _ _ _ _ W).mono fun _ _ ⟨he,hw⟩=>⟨he,by rw[hw];exact((Below.refl _ W).alloc (Nat.le_refl _) _).alloc (by simp) _⟩;clear hW hbW hQ c0 c1 c2;go_wp2_with fail;refine(HS.out W).mono ?_;rintro e w1 ⟨rfl,hb1⟩;have q2:=(hb1.cell (p:=⟨Q,2,none⟩) hPW).trans p2;have f2:=(hb1.cell (p:=⟨P,2,none⟩) (by simp;omega)).trans d2;have HB1:Hid (Below w.heap.size w w1):=HB.out.trans (hb1.mono (by have:=HQ.out;omega));obtain⟨b,hb⟩:∃b,zb0 (t2,i2,m2) (t,i,m)=b:=⟨_,rfl⟩;rw[hb];have HL:Hid (zb0 (t2,i2,m2) (t,i,m)=b):=hb;clear hb hb1 p0 p1 p2 d0 d1 d2;cases b with
 | false =>go_wp2_with fail;go_ret;exact⟨ret_bool (by unfold hasP;rw[HL.out];rfl),HB1.out⟩
 | true =>
   go_wp2;all_goals go_ret
   all_goals exact⟨ret_bool (by unfold hasP;rw[HL.out];simp_all),HB1.out⟩
theorem zuy(o x:Op3)(t:Int)(P1 P2 P:Nat)(w:World)(h1:w.cell? ⟨P1,0,none⟩=some (.int .i64 t))(h2:w.cell? ⟨P2,0,none⟩=some (.func (.func 275) #[] #[.pointer (some ⟨P,0,none⟩)]))(hc:za0 w P x):Calls Tryz.prog 279 #[lkV o,.pointer (some ⟨P1,0,none⟩),.pointer (some ⟨P2,0,none⟩)] w fun e w'=>e=.returned (.bool (o.1 == t && zd3 o x))/\Below w.heap.size w w':=by
 obtain⟨t2,i2,m2⟩:=o;have hP1:P1<w.heap.size:=World.block_lt_of_cell? w _ h1;have hP2:P2<w.heap.size:=World.block_lt_of_cell? w _ h2;have HO:Hid (∀W,Below w.heap.size w W->Calls Tryz.prog 275 #[.agg #[.int .i64 t2,.int .i64 i2,.int .i64 m2],.pointer (some ⟨P,0,none⟩)] W fun e w'=>e=.returned (.bool (zd3 (t2,i2,m2) x))/\Below W.heap.size W w'):=fun W hW=>zkg (t2,i2,m2) x P W (hc.below hW hc.lt);have hcall:∀(args:Array Value) (W:World),(callFunc 275 args).run Tryz.prog W=.ok (.enter 275 args) W:=fun args W=>by kernel_rfl
 clear hc;go_enter Tryz.func279,Tryz.ntmps279
 go_upto_region 1 with(fail)
 obtain⟨W,hW⟩:∃W,W=w.alloc (.cells #[.int .i64 t2,.int .i64 i2,.int .i64 m2] 269):=⟨_,rfl⟩;rw[<-hW];have hbW:Below w.heap.size w W:=by rw[hW];exact(Below.refl _ w).alloc (Nat.le_refl _) _
 obtain⟨p0,p1,p2⟩:za0 W w.heap.size (t2,i2,m2):=by rw[hW];exact zbP _ _ _ _ _
 simp only at p0 p1 p2;have d1:=(hbW.cell (p:=⟨P1,0,none⟩) hP1).trans h1;have d2:=(hbW.cell (p:=⟨P2,0,none⟩) hP2).trans h2;obtain⟨Q,hQ⟩:∃Q,Q=w.heap.size:=⟨_,rfl⟩;rw[<-hQ]at p0 p1 p2 ⊢;have HQ:Hid (Q=w.heap.size):=hQ;have HB:Hid (Below w.heap.size w W):=hbW;clear hW hbW hQ h1 h2;by_cases he:t2=t
 ·subst he;go_wp2_with fail;refine(HO.out W HB.out).mono ?_;rintro e w1 ⟨rfl,hb1⟩;go_wp2_with fail;go_ret;exact⟨ret_bool (by simp),HB.out.trans (hb1.mono HB.out.size)⟩
 ·have he':(t2 == t)=false:=by simpa using he
  go_wp2_with fail;go_ret;exact⟨ret_bool (by rw[he'];rfl),HB.out⟩
theorem zAv(t:Int)(w:World):Calls Tryz.prog 225 #[.int .i64 t] w fun e w'=>e=.returned (.func (.func 259) #[] #[.pointer (some ⟨w.heap.size,0,none⟩)])/\w'.cell? ⟨w.heap.size,0,none⟩=some (.int .i64 t)/\Below w.heap.size w w':=by
 go_enter Tryz.func225,Tryz.ntmps225;go_wp2;all_goals go_ret
 all_goals exact⟨rfl,by simp,(Below.refl _ w).alloc (Nat.le_refl _) _⟩
theorem pOdds_any(x:Op3)(w:World):Calls Tryz.prog 260 #[lkV x] w fun e w'=>e=.returned (.func (.func 275) #[] #[.pointer (some ⟨w.heap.size,0,none⟩)])/\za0 w' w.heap.size x/\Below w.heap.size w w':=by
 obtain⟨t,i,m⟩:=x;go_enter Tryz.func260,Tryz.ntmps260;go_wp2;all_goals go_ret
 all_goals exact⟨rfl,zbP _ _ _ _ _,(Below.refl _ w).alloc (Nat.le_refl _) _⟩
theorem zmV:∀(args:Array Value) (W:World),(callFunc 259 args).run Tryz.prog W=.ok (.enter 259 args) W:=fun args W=>by kernel_rfl
theorem zlW:∀(args:Array Value) (W:World),(callFunc 275 args).run Tryz.prog W=.ok (.enter 275 args) W:=fun args W=>by kernel_rfl
theorem zwT:∀(args:Array Value) (W:World),(callFunc 276 args).run Tryz.prog W=.ok (.enter 276 args) W:=fun args W=>by kernel_rfl
theorem zmR:∀(args:Array Value) (W:World),(callFunc 226 args).run Tryz.prog W=.ok (.enter 226 args) W:=fun args W=>by kernel_rfl
theorem zjL:∀(args:Array Value) (W:World),(callFunc 279 args).run Tryz.prog W=.ok (.enter 279 args) W:=fun args W=>by kernel_rfl
end Go.Proofs.YthlhgiihngcobaaGreatDoor
namespace Go.Proofs.YthlhgiihngcobaaGreatDoor
open Go.RowKit
theorem phold_any(T:Nat)(cs:Array Value)(hv wv:Value)(s:za3)(x:Op3)(w:World)(h:zaK w 267 T 0 cs hv wv s)(hl:s.1.length<=1000):Calls Tryz.prog 261 #[.pointer (some ⟨T,0,none⟩),lkV x] w fun e w'=>e=.returned (.tuple #[])/\TabStep w w' 267 T 0 cs hv wv (holdL s.1 x,s.2):=by
 obtain⟨t,i,m⟩:=x;obtain⟨ad,c,rfl,-⟩:=zad h.oh;obtain⟨i0,hi,hz0,hs0,hy0⟩:=info_parts zkm;have HI:Hid (Tryz.prog.info? 269=some i0/\i0.zero=some (.agg #[.int .i64 0,.int .i64 0,.int .i64 0])/\i0.size=3/\i0.bytes=24):=⟨hi,hz0,hs0,hy0⟩;have HT:Hid (zaK w 267 T 0 cs (.slice ad s.1.length c) wv s):=h;have hTl:=h.lt;obtain⟨n,hn⟩:∃n,s.1.length=n:=⟨_,rfl⟩;rw[hn]at HT hl ⊢;have HN:Hid (s.1.length=n):=hn;clear h hi hz0 hs0 hy0 hn;go_enter Tryz.func261,Tryz.ntmps261
 go_upto_region 1 with(fail)
 obtain⟨W,hW⟩:∃W,W=w.alloc (.cells #[.int .i64 t,.int .i64 i,.int .i64 m] 269):=⟨_,rfl⟩;rw[<-hW];have HLW:Hid (za0 W w.heap.size (t,i,m)):=by show za0 _ _ _;rw[hW];exact zbP _ _ _ _ _
 have hbW:Below w.heap.size w W:=by rw[hW];exact(Below.refl _ w).alloc (Nat.le_refl _) _
 have HTW:Hid (zaK W 267 T 0 cs (.slice ad n c) wv s):=HT.out.below hbW;have HBW:Hid (Below w.heap.size w W):=hbW;have hPW:w.heap.size<W.heap.size:=HLW.out.lt;obtain⟨P,hP⟩:∃P,P=w.heap.size:=⟨_,rfl⟩;rw[<-hP]at HLW hPW hTl ⊢;have HP:Hid (P=w.heap.size):=hP;have c0:=HTW.out.c0;have HIX:Hid (Calls Tryz.prog 258 #[.slice ad n c,.func (.func 276) #[] #[.pointer (some ⟨P,0,none⟩)]] W fun r w'=>∃k:Int,r=.returned (.int .i64 k)/\zc0 s.1 (fun y=>zb0 y (t,i,m)) k/\Below W.heap.size W w'):=zeB s.1 _ (fun y=>zb0 y (t,i,m)) _ #[.pointer (some ⟨P,0,none⟩)] W zwT HTW.out.held (by rw[HN.out];omega) fun W2 hW2 e _=>zzC e (t,i,m) P W2 (HLW.out.below hW2 hPW);clear hW hbW hP;go_wp2_with fail;refine HIX.out.mono ?_;rintro e V ⟨k1,rfl,hfirst,hbV⟩;have HTV:Hid (zaK V 267 T 0 cs (.slice ad n c) wv s):=HTW.out.below hbV;have c0':=HTV.out.c0;have z0:=HTV.out.thaw 0;obtain⟨q0,q1,q2⟩:=HLW.out.below hbV hPW;simp only at q0 q1 q2;have HBV:Hid (Below W.heap.size W V):=hbV;have hsV:=hbV.size;clear hbV HIX c0 HLW;have hohn:V.ownsRow (T+1) 269 3 (.slice ad n c) n (flat s.1):=by have:=HTV.out.oh;rw[HN.out]at this;exact this
 have HOH:Hid (V.ownsRow (T+1) 269 3 (.slice ad n c) n (flat s.1)):=hohn;rcases hfirst with⟨rfl,hno⟩ | ⟨k,rfl,hk,hyes,hno⟩
 ·have HH:Hid (holdL s.1 (t,i,m)=s.1++[(t,i,m)]):=zsW fun j hj=>by have:=List.any_eq_false.1 hno _ (zal hj);simpa using this
  have hPV:P<V.heap.size:=by omega
  have hTV:T<V.heap.size:=by omega
  have hc0:∀ob:Obj,(V.alloc ob).cell? ⟨T,0,none⟩=some (.slice ad n c):=fun ob=>by rw[World.cell?_alloc_lt _ _ ⟨T,0,none⟩ hTV];exact c0'
  have hTW1:T+1<=V.heap.size:=by omega
  clear hohn hno;go_wp2_with fail
  go_region_law (refine zaB rfl (.tmp 26) (.tmp 28) 265 rfl (T+1) 269 i0 (.agg #[.int .i64 0,.int .i64 0,.int .i64 0]) 3 24 Tryz.underlying265 HI.out.1 HI.out.2.1 HI.out.2.2.1 HI.out.2.2.2 rfl (by decide) (.slice ad n c) n (flat s.1) (by simp[Act.eval]) (HOH.out.alloc _) ⟨V.heap.size,0,none⟩ 1 1 (flat [(t,i,m)]) (by simp[Act.eval]) rfl (zeF V (t,i,m) _) (zba _) (by unfold maxLen;omega) (by omega) (by simp;omega) ?_;intro v2 w2 hown2 hgr2 hap2;obtain⟨ad2,c2,rfl,-⟩:=zad hown2;have HA2:Hid (∀g,(Value.slice ad2 (n+1) c2).ownBlock=some g->(Value.slice ad n c).ownBlock=some g\/V.heap.size<=g):=apart_later hap2;clear hap2;have HTU:Hid (zac (fun j=>(Value.slice ad n c).ownBlock=some j) V w2):=zbx hgr2;have HO2:Hid (w2.ownsRow (T+1) 269 3 (.slice ad2 (n+1) c2) (n+1) (flat s.1++flat [(t,i,m)])):=hown2;have HG2:Hid ((V.drew.alloc (.cells #[.int .i64 t,.int .i64 i,.int .i64 m] 269)).grownBy w2 (Value.slice ad n c).ownBlock):=hgr2;have g0:w2.cell? ⟨T,0,none⟩=some (.slice ad n c):=(HTU.out.cell (p:=⟨T,0,none⟩) hTV (fun e=>by have:=(HOH.out.lt T e).1;omega)).trans c0';have g1:w2.frozen? ⟨T,0,none⟩=false:=(World.frozen?_of_block (a:=⟨T,0,none⟩) (HTU.out.block T hTV (fun e=>by have:=(HOH.out.lt T e).1;omega))).trans z0;clear hown2 hgr2)
  all_goals
   have hstep:TabStep V (w2.setCell ⟨T,0,none⟩ (.slice ad2 (n+1) c2)) 267 T 0 cs (.slice ad n c) wv (s.1++[(t,i,m)],s.2):=zpT HTV.out HTU.out (by rw[List.length_append,HN.out,zaP];exact HO2.out) HA2.out;go_wp2_with fail;go_end0;refine⟨rfl,?_⟩;rw[HH.out];exact TabStep.later (zac.of_below (HBW.out.trans (HBV.out.mono (by have:=HP.out;omega)))) hstep
 ·have HH:Hid (holdL s.1 (t,i,m)=s.1.set k (t,i,m)):=zx9 hk (fun j hj=>zgN hno hj (by omega)) hyes;have hkn:k<n:=by rw[HN.out]at hk;exact hk
  have hkn':(k:Int)<(n:Int):=by omega
  obtain⟨g,c2,hv2,hTg,hgl,hfz,e0,e1,e2⟩:=zdj hohn HN.out hkn;simp only[Value.slice.injEq]at hv2;obtain⟨rfl,-,rfl⟩:=hv2;obtain⟨⟨t2,i2,m2⟩,ho⟩:∃o:Op3,opAt s.1 k=o:=⟨_,rfl⟩;rw[ho]at e0 e1 e2;simp only at e0 e1 e2;have y0:=hfz (k*3);have y1:=hfz (k*3+1);have y2:=hfz (k*3+2);clear hfz hohn ho hyes hno;have hge:(0:Int)<=(k:Int):=by omega
  go_wp2_with fail;go_region;have hbq:Below V.heap.size V V.drew:=below_drewN (Below.refl _ _) 1;have hstep:=zyX (HTV.out.below hbq) HN.out hkn (t,i,m);go_wp2_with fail;refine bodyPost_ret (results_none Tryz.results261 _ _ _) rfl ⟨rfl,?_⟩;rw[HH.out];exact TabStep.later (zac.of_below (HBW.out.trans ((HBV.out.mono (by have:=HP.out;omega)).trans (hbq.mono (by have:=HP.out;omega))))) hstep
theorem zdY{p:Prop}(h:p):Hid p:=h
def zcp(s:za3)(x:Op3):Bool × za3:=if(zbC s.1 x && zbC s.2 x)=true then(true,(holdL s.1 x,s.2))else(false,(s.1,s.2++[x]))
end Go.Proofs.YthlhgiihngcobaaGreatDoor
namespace Go.Proofs.YthlhgiihngcobaaGreatDoor
open Go.RowKit
theorem take_any(T:Nat)(cs:Array Value)(hv wv:Value)(s:za3)(x:Op3)(w:World)(h:zaK w 267 T 0 cs hv wv s)(hl1:s.1.length<=900)(hl2:s.2.length<=900)(hok1:∀y∈s.1,zak y=true)(hok2:∀y∈s.2,zak y=true)(hx:zak x=true):Calls Tryz.prog 228 #[.pointer (some ⟨T,0,none⟩),lkV x] w fun e w'=>e=.returned (.bool (zcp s x).1)/\TabStep w w' 267 T 0 cs hv wv (zcp s x).2:=by
 have HC1:Hid (s.1.any (fun y=>zd3 y x)=!zbC s.1 x):=zmp hok1 hx;have HC2:Hid (s.2.any (fun y=>zd3 y x)=!zbC s.2 x):=zmp hok2 hx;clear hok1 hok2 hx;obtain⟨t,i,m⟩:=x;obtain⟨i0,hi,hz0,hs0,hy0⟩:=info_parts zkm;have HI:Hid (Tryz.prog.info? 269=some i0/\i0.zero=some (.agg #[.int .i64 0,.int .i64 0,.int .i64 0])/\i0.size=3/\i0.bytes=24):=⟨hi,hz0,hs0,hy0⟩;obtain⟨ad,c,rfl,-⟩:=zad h.oh;obtain⟨wad,wc,rfl,-⟩:=zad h.ow;obtain⟨n1,hn1⟩:∃n,s.1.length=n:=⟨_,rfl⟩;obtain⟨ln,hln⟩:∃n,s.2.length=n:=⟨_,rfl⟩;rw[hn1]at h hl1 ⊢;rw[hln]at h hl2 ⊢;have HN1:Hid (s.1.length=n1):=hn1;have HLN:Hid (s.2.length=ln):=hln;have HT:Hid (zaK w 267 T 0 cs (.slice ad n1 c) (.slice wad ln wc) s):=h;have hTl:=h.lt;clear h hi hz0 hs0 hy0 hn1 hln;go_enter Tryz.func228,Tryz.ntmps228
 go_upto_region 1 with(fail)
 obtain⟨W,hW⟩:∃W,W=w.alloc (.cells #[.int .i64 t,.int .i64 i,.int .i64 m] 269):=⟨_,rfl⟩;rw[<-hW];have hLW:za0 W w.heap.size (t,i,m):=by rw[hW];exact zbP _ _ _ _ _
 have hbW:Below w.heap.size w W:=by rw[hW];exact(Below.refl _ w).alloc (Nat.le_refl _) _
 have hPW:w.heap.size<W.heap.size:=hLW.lt;obtain⟨P,hP⟩:∃P,P=w.heap.size:=⟨_,rfl⟩;rw[<-hP]at hLW hPW hTl ⊢;have HP:Hid (P=w.heap.size):=hP;have HBW:Hid (Below w.heap.size w W):=hbW;have HLW:Hid (za0 W P (t,i,m)):=hLW;obtain⟨p0,p1,p2⟩:=hLW;simp only at p0 p1 p2;clear hW hbW hP;go_wp2_with fail;refine(pOdds_any (t,i,m) W).mono ?_;rintro e X ⟨rfl,hLX,hbX⟩;have HLP:Hid (za0 X P (t,i,m)):=HLW.out.below hbX hPW;have HBX:Hid (Below w.heap.size w X):=HBW.out.trans (hbX.mono (by have:=HP.out;omega));have hQX:W.heap.size<X.heap.size:=hLX.lt;obtain⟨Q,hQ⟩:∃Q,Q=W.heap.size:=⟨_,rfl⟩;rw[<-hQ]at hLX hQX hPW ⊢;have HTX:Hid (zaK X 267 T 0 cs (.slice ad n1 c) (.slice wad ln wc) s):=HT.out.below HBX.out;have HLX:Hid (za0 X Q (t,i,m)):=hLX;have c0:=HTX.out.c0;clear p0 p1 p2 hLX hbX HLW HBW hQ;have HCA:Hid (Calls Tryz.prog 224 #[.slice ad n1 c,.func (.func 275) #[] #[.pointer (some ⟨Q,0,none⟩)]] X fun r w'=>r=.returned (.bool (!zbC s.1 (t,i,m)))/\Below X.heap.size X w'):=by show Calls _ _ _ _ _;rw[<-HC1.out];exact zby s.1 _ (fun y=>zd3 y (t,i,m)) _ #[.pointer (some ⟨Q,0,none⟩)] X zlW HTX.out.held (by rw[HN1.out];omega) fun W2 hW2 e _=>zkg e (t,i,m) Q W2 (HLX.out.below hW2 hQX)
 go_wp2_with fail;refine HCA.out.mono ?_;rintro e Y ⟨rfl,hbY⟩;have HTY:Hid (zaK Y 267 T 0 cs (.slice ad n1 c) (.slice wad ln wc) s):=HTX.out.below hbY;have HLY:Hid (za0 Y P (t,i,m)):=HLP.out.below hbY (by omega);have HBY:Hid (Below w.heap.size w Y):=HBX.out.trans (hbY.mono HBX.out.size);have c1:=HTY.out.c1;have hPY:P<Y.heap.size:=HLY.out.lt;have HLQ:Hid (za0 Y Q (t,i,m)):=HLX.out.below hbY hQX;have hQY:Q<Y.heap.size:=HLQ.out.lt;have HCB:Hid (Calls Tryz.prog 224 #[.slice wad ln wc,.func (.func 275) #[] #[.pointer (some ⟨Q,0,none⟩)]] Y fun r w'=>r=.returned (.bool (!zbC s.2 (t,i,m)))/\Below Y.heap.size Y w'):=by show Calls _ _ _ _ _;rw[<-HC2.out];exact zby s.2 _ (fun y=>zd3 y (t,i,m)) _ #[.pointer (some ⟨Q,0,none⟩)] Y zlW HTY.out.waits (by rw[HLN.out];omega) fun W2 hW2 e _=>zkg e (t,i,m) Q W2 (HLQ.out.below hW2 hQY)
 obtain⟨b1,hb1⟩:∃b1,zbC s.1 (t,i,m)=b1:=⟨_,rfl⟩;obtain⟨b2,hb2⟩:∃b2,zbC s.2 (t,i,m)=b2:=⟨_,rfl⟩;rw[hb2]at HCB;rw[hb1];have HB1:Hid (zbC s.1 (t,i,m)=b1):=hb1;have HB2:Hid (zbC s.2 (t,i,m)=b2):=hb2;clear hb1 hb2 hbY HCA HTX HLP HBX HLX HC1 HC2 c0 HT
 have HWAIT:Hid (∀(Z:World),Below w.heap.size w Z->za0 Z P (t,i,m)->zaK Z 267 T 0 cs (.slice ad n1 c) (.slice wad ln wc) s->Z.cell? ⟨T,0+1,none⟩=some (.slice wad ln wc)/\Z.frozen? ⟨T,0+1,none⟩=false/\T+1<=Z.heap.size/\Z.ownsRow (T+1) 269 3 (.slice wad ln wc) ln (flat s.2)/\∀v2 w2,w2.ownsRow (T+1) 269 3 v2 (ln+1) (flat s.2++flat [(t,i,m)])->(Z.drew.alloc (.cells #[.int .i64 t,.int .i64 i,.int .i64 m] 269)).grownBy w2 (Value.slice wad ln wc).ownBlock->(∀g,v2.ownBlock=some g->(Value.slice wad ln wc).ownBlock=some g\/(Z.drew.alloc (.cells #[.int .i64 t,.int .i64 i,.int .i64 m] 269)).heap.size<=g)->w2.cell? ⟨T,0+1,none⟩=some (.slice wad ln wc)/\w2.frozen? ⟨T,0+1,none⟩=false/\TabStep w (w2.setCell ⟨T,0+1,none⟩ v2) 267 T 0 cs (.slice ad n1 c) (.slice wad ln wc) (s.1,s.2++[(t,i,m)])):=fun Z hbZ hLZ hTZ=>by
  have hT3:=hTZ.lt;have how:Z.ownsRow (T+1) 269 3 (.slice wad ln wc) ln (flat s.2):=by have:=hTZ.ow;rw[HLN.out]at this;exact this
  refine⟨hTZ.c1,hTZ.thaw (0+1),hT3,how,fun v2 w2 hown2 hgr2 hap2=>?_⟩;have htu:zac (fun j=>(Value.slice wad ln wc).ownBlock=some j) Z w2:=zbx hgr2;have hnT:¬(Value.slice wad ln wc).ownBlock=some T:=fun e=>by have:=(how.lt T e).1;omega
  refine⟨(htu.cell (p:=⟨T,0+1,none⟩) hT3 hnT).trans hTZ.c1,(World.frozen?_of_block (a:=⟨T,0+1,none⟩) (htu.block T hT3 hnT)).trans (hTZ.thaw (0+1)),TabStep.later (zac.of_below hbZ) (zxq hTZ htu ?_ (apart_later hap2))⟩;rw[List.length_append,HLN.out,zaP];exact hown2
 cases b1 with
 | false =>
   have HR:Hid (zcp s (t,i,m)=(false,(s.1,s.2++[(t,i,m)]))):=by show zcp _ _=_;unfold zcp;rw[HB1.out,if_neg (by simp)]
   obtain⟨k1,z1,hT1,how,hgo⟩:=HWAIT.out Y HBY.out HLY.out HTY.out;have HOW:Hid (Y.ownsRow (T+1) 269 3 (.slice wad ln wc) ln (flat s.2)):=how;have HGO:=zdY hgo;obtain⟨q0,q1,q2⟩:=HLY.out;simp only at q0 q1 q2;clear how hgo z1 c1 HCB;simp only[Nat.zero_add]at k1;have hTY:T<Y.heap.size:=by omega
   have hc1:∀ob:Obj,(Y.alloc ob).cell? ⟨T,1,none⟩=some (.slice wad ln wc):=fun ob=>by rw[World.cell?_alloc_lt _ _ ⟨T,1,none⟩ hTY];exact k1
   go_wp2_with fail
   go_region_law (refine zaB rfl (.tmp 26) (.tmp 28) 265 rfl (T+1) 269 i0 (.agg #[.int .i64 0,.int .i64 0,.int .i64 0]) 3 24 Tryz.underlying265 HI.out.1 HI.out.2.1 HI.out.2.2.1 HI.out.2.2.2 rfl (by decide) (.slice wad ln wc) ln (flat s.2) (by simp[Act.eval]) (HOW.out.alloc _) ⟨Y.heap.size,0,none⟩ 1 1 (flat [(t,i,m)]) (by simp[Act.eval]) rfl (zeF Y (t,i,m) _) (zba _) (by unfold maxLen;omega) (by omega) (by simp;omega) ?_;intro v2 w2 hown2 hgr2 hap2;obtain⟨g0,g1,g2⟩:=HGO.out v2 w2 hown2 hgr2 hap2;clear hap2 hgr2;obtain⟨ad5,c5,rfl,-⟩:=zad hown2;have HK2:Hid (TabStep w (w2.setCell ⟨T,0+1,none⟩ (.slice ad5 (ln+1) c5)) 267 T 0 cs (.slice ad n1 c) (.slice wad ln wc) (s.1,s.2++[(t,i,m)])):=g2;clear g2 hown2;simp only[Nat.zero_add]at g0 g1)
   all_goals
    go_wp2_with fail;go_ret;refine⟨by rw[HR.out];rfl,?_⟩;rw[HR.out];exact HK2.out
 | true =>
   cases b2 with
   | false =>
     have HR:Hid (zcp s (t,i,m)=(false,(s.1,s.2++[(t,i,m)]))):=by show zcp _ _=_;unfold zcp;rw[HB2.out,if_neg (by simp)]
     go_wp2_with fail;refine HCB.out.mono ?_;rintro e Z ⟨rfl,hbZ⟩;have HLZ:Hid (za0 Z P (t,i,m)):=HLY.out.below hbZ hPY;obtain⟨k1,z1,hT1,how,hgo⟩:=HWAIT.out Z (HBY.out.trans (hbZ.mono HBY.out.size)) HLZ.out (HTY.out.below hbZ);have HOW:Hid (Z.ownsRow (T+1) 269 3 (.slice wad ln wc) ln (flat s.2)):=how;have HGO:=zdY hgo;obtain⟨q0,q1,q2⟩:=HLZ.out;simp only at q0 q1 q2;clear how hgo z1 c1 HCB hbZ;simp only[Nat.zero_add]at k1;have hTY:T<Z.heap.size:=by omega
     have hPZ:P<Z.heap.size:=HLZ.out.lt;have hc1:∀ob:Obj,(Z.alloc ob).cell? ⟨T,1,none⟩=some (.slice wad ln wc):=fun ob=>by rw[World.cell?_alloc_lt _ _ ⟨T,1,none⟩ hTY];exact k1
     go_wp2_with fail
     go_region_law (refine zaB rfl (.tmp 26) (.tmp 28) 265 rfl (T+1) 269 i0 (.agg #[.int .i64 0,.int .i64 0,.int .i64 0]) 3 24 Tryz.underlying265 HI.out.1 HI.out.2.1 HI.out.2.2.1 HI.out.2.2.2 rfl (by decide) (.slice wad ln wc) ln (flat s.2) (by simp[Act.eval]) (HOW.out.alloc _) ⟨Z.heap.size,0,none⟩ 1 1 (flat [(t,i,m)]) (by simp[Act.eval]) rfl (zeF Z (t,i,m) _) (zba _) (by unfold maxLen;omega) (by omega) (by simp;omega) ?_;intro v2 w2 hown2 hgr2 hap2;obtain⟨g0,g1,g2⟩:=HGO.out v2 w2 hown2 hgr2 hap2;clear hap2 hgr2;obtain⟨ad5,c5,rfl,-⟩:=zad hown2;have HK2:Hid (TabStep w (w2.setCell ⟨T,0+1,none⟩ (.slice ad5 (ln+1) c5)) 267 T 0 cs (.slice ad n1 c) (.slice wad ln wc) (s.1,s.2++[(t,i,m)])):=g2;clear g2 hown2;simp only[Nat.zero_add]at g0 g1)
     all_goals
      go_wp2_with fail;go_ret;refine⟨by rw[HR.out];rfl,?_⟩;rw[HR.out];exact HK2.out
   | true =>
     have HR:Hid (zcp s (t,i,m)=(true,(holdL s.1 (t,i,m),s.2))):=by show zcp _ _=_;unfold zcp;rw[HB1.out,HB2.out,if_pos (by decide)]
     go_wp2_with fail;refine HCB.out.mono ?_;rintro e Z ⟨rfl,hbZ⟩;have HTZ:Hid (zaK Z 267 T 0 cs (.slice ad n1 c) (.slice wad ln wc) s):=HTY.out.below hbZ;have HBZ:Hid (Below w.heap.size w Z):=HBY.out.trans (hbZ.mono HBY.out.size);obtain⟨q0,q1,q2⟩:=HLY.out.below hbZ hPY;simp only at q0 q1 q2;clear hbZ HCB c1;go_wp2_with fail;refine(phold_any T cs _ _ s (t,i,m) Z HTZ.out (by rw[HN1.out];omega)).mono ?_;rintro e V ⟨rfl,hst⟩;have HST:=zdY hst;clear hst q0 q1 q2;go_wp2_with fail;go_ret;refine⟨by rw[HR.out];rfl,?_⟩;rw[HR.out];exact TabStep.later (zac.of_below HBZ.out) HST.out
end Go.Proofs.YthlhgiihngcobaaGreatDoor
