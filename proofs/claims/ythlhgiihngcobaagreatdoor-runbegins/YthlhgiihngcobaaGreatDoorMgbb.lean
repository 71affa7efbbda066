/-
  PROVED HERE: faces.writer tells who wrote an item last in a list of ops, of those that have not aborted within it; faces.sources tells of each Read of a list the deal that wrote the item last ahead of it, of those that had; the five closures of faces.Of, in whatever world holds the list and the row of ends; slices.IndexFunc and slices.ContainsFunc of edges, for any closure.
  Conditions: none but those that each theorem's own premises say.
-/
import Derived.Test.YthlhgiihngcobaaGreatDoorMgba
import Derived.Test.YthlhgiihngcobaaGreatDoorMgaj
import Derived.Test.YthlhgiihngcobaaGreatDoorMgah
import Derived.Test.YthlhgiihngcobaaGreatDoorMgag
set_option maxHeartbeats 32000000
set_option maxRecDepth 100000
namespace Go.Proofs.YthlhgiihngcobaaGreatDoor
open Go.RowKit
theorem zdi{W:World}{a:Addr}{v:Value}(o:Obj)(h:W.cell? a=some v):(W.alloc o).cell? a=some v :=(((Below.refl W.heap.size W).alloc (Nat.le_refl _) o).cell (World.block_lt_of_cell? W _ h)).trans h
theorem zdb(W:World)(v:Value)(ty:TypeId):(W.alloc (.cells #[v] ty)).cell? ⟨W.heap.size,0,none⟩=some v:=by simp
def countB(f:Nat->Int × Int)(y n:Int)(o:Op3):Bool:=o.2.1 == 2 && (o.2.2 == y && !byE f o.1 n 4)
theorem zqe(f:Nat->Int × Int)(t a x y:Int)(ad:Option Addr)(n cap B1 B2 B3:Nat)(w:World)(h0:0<=t)(h7:t<7)(c1:w.cell? ⟨B1,0,none⟩=some (.int .i64 y))(hE:zaw w B2 f)(c3:w.cell? ⟨B3,0,none⟩=some (.slice ad n cap)):Calls Tryz.prog 187 #[.agg #[.int .i64 t,.int .i64 a,.int .i64 x],.pointer (some ⟨B1,0,none⟩),.pointer (some ⟨B2,0,none⟩),.pointer (some ⟨B3,0,none⟩)] w fun e w'=>e=.returned (.bool (countB f y n (t,a,x)))/\Below w.heap.size w w':=by
 have b1:=World.block_lt_of_cell? w _ c1;have b3:=World.block_lt_of_cell? w _ c3;simp only at b1 b3;go_enter Tryz.func187,Tryz.ntmps187
 go_upto_region 1 with(fail)
 obtain⟨W,hW⟩:∃W,W=w.alloc (.cells #[.int .i64 t,.int .i64 a,.int .i64 x] 103):=⟨_,rfl⟩;rw[<-hW];obtain⟨P,hP⟩:∃P,P=w.heap.size:=⟨_,rfl⟩;rw[<-hP];have p0:W.cell? ⟨P,0,none⟩=some (.int .i64 t):=by rw[hW,hP];simp
 have p1:W.cell? ⟨P,1,none⟩=some (.int .i64 a):=by rw[hW,hP];simp
 have p2:W.cell? ⟨P,2,none⟩=some (.int .i64 x):=by rw[hW,hP];simp
 have hbw:Below w.heap.size w W:=by rw[hW];exact(Below.refl _ w).alloc (Nat.le_refl _) _
 have k1:=(hbw.cell (p:=⟨B1,0,none⟩) b1).trans c1;have k3:=(hbw.cell (p:=⟨B3,0,none⟩) b3).trans c3;have HE:Hid (zaw W B2 f):=hE.below hbw hE.lt;have HB:Hid (Below w.heap.size w W):=hbw;rw[hP];clear hW hbw hE c1 c3 b1 b3;rw[<-hP];have HP:Hid (P=w.heap.size):=hP;clear hP;by_cases ha:a=2
 ·subst ha;by_cases hx:x=y
  ·subst hx;go_wp2_with (refine wpList_load_row1 rfl 121 (.tmp 2) rfl B2 rfl 121 (cells14 f) (0,0) _ HE.out Tryz.underlying121 rfl (zbn _) ?_);refine(zid f t n _ h0 h7).mono ?_;rintro e w1 ⟨rfl,hb1⟩;have HB1:Hid (Below w.heap.size w w1):=HB.out.trans (hb1.mono HB.out.size);clear hb1;go_wp2_with fail;go_ret;exact⟨by simp[countB],by first | exact HB1.out | (rw[HP.out];exact HB1.out)⟩
  ·have hx':(x == y)=false:=by simpa using hx
   clear hx;go_wp2_with fail;go_ret;exact⟨by simp[countB,hx'],by first | exact HB.out | (rw[HP.out];exact HB.out)⟩
 ·have ha':(a == 2)=false:=by simpa using ha
  clear ha;go_wp2_with fail;go_ret;exact⟨by simp[countB,ha'],by first | exact HB.out | (rw[HP.out];exact HB.out)⟩
def wTo(f:Nat->Int × Int)(y n:Int)(m:List Op3):Nat->Int
 | 0=>0
 | k+1=>if countB f y n (opAt m k)=true then(opAt m k).1 else wTo f y n m k
theorem zzz{f:Nat->Int × Int}{y n:Int}{m:List Op3}{k:Nat}(h:countB f y n (opAt m k)=true):wTo f y n m (k+1)=(opAt m k).1:=if_pos h
theorem zwU{f:Nat->Int × Int}{y n:Int}{m:List Op3}{k:Nat}(h:countB f y n (opAt m k)=false):wTo f y n m (k+1)=wTo f y n m k:=if_neg (by rw[h];decide)
theorem zq1(f:Nat->Int × Int)(y:Int)(m:List Op3)(v:Value)(w:World)(hI:zai w v m)(hl:m.length<=40)(hop:∀o∈m,isOpB o=true):Calls Tryz.prog 130 #[v,.int .i64 y,.agg (cells14 f)] w fun e w'=>e=.returned (.int .i64 (wTo f y m.length m m.length))/\Below w.heap.size w w':=by
 obtain⟨ad,b,off,cap,rfl,had,-,hbB,hops⟩:=hI;have HO:Hid (∀W,Below w.heap.size w W->∀k,k<m.length->ad=some ⟨b,off,none⟩/\W.cell? ⟨b,off+k*3,none⟩=some (.int .i64 (opAt m k).1)/\W.cell? ⟨b,off+k*3+1,none⟩=some (.int .i64 (opAt m k).2.1)/\W.cell? ⟨b,off+k*3+2,none⟩=some (.int .i64 (opAt m k).2.2)):=fun W hW k hk=>⟨had (by omega),(hops.below hW hbB) k hk⟩;have HOP:Hid (∀o∈m,isOpB o=true):=hop;obtain⟨n,hn⟩:∃n,m.length=n:=⟨_,rfl⟩;rw[hn]at hl HO ⊢;have HN:Hid (m.length=n):=hn;clear had hbB hops hop hn;go_enter Tryz.func130,Tryz.ntmps130;go_wp2
 go_loopw [8] (fun v8 wr=>∃(k:Nat) (i:Int),k<=n/\i+1=k/\v8=.int .i64 i/\Below w.heap.size w wr/\wr.cell? ⟨w.heap.size,0,none⟩=some (.slice ad n cap)/\wr.cell? ⟨w.heap.size+1,0,none⟩=some (.int .i64 y)/\zaw wr (w.heap.size+2) f/\wTo f y n m k=wTo f y n m n) (fun v8 _=>(intOf v8+1).toNat)
 case atStart =>
  refine⟨n,(n:Int)-1,Nat.le_refl _,by omega,by go_num,(((Below.refl _ w).alloc (Nat.le_refl _) _).alloc (by simp) _).alloc (by simp;omega) _,?_,?_,?_,rfl⟩
  ·exact zdi _ (zdi _ (zdb w _ _))
  ·have h2:=zdb (w.alloc (.cells #[.slice ad n cap] 28)) (.int .i64 y) 3;rw[show(w.alloc (.cells #[.slice ad n cap] 28)).heap.size=w.heap.size+1 by simp]at h2;exact zdi _ h2
  have h1:=zdG ((w.alloc (.cells #[.slice ad n cap] 28)).alloc (.cells #[.int .i64 y] 3)) f;rw[show((w.alloc (.cells #[.slice ad n cap] 28)).alloc (.cells #[.int .i64 y] 3)).heap.size=w.heap.size+2 by simp]at h1;exact h1
 case round =>
  obtain⟨k,i,hk,hik,rfl,hbel,s0,s1,s2,hans⟩:=hrel;have HB:Hid (Below w.heap.size w wr):=hbel;have HE:Hid (zaw wr (w.heap.size+2) f):=s2;have HA:Hid (wTo f y n m k=wTo f y n m n):=hans;clear s2 hans;by_cases h0:0<=i
  ·obtain⟨j,rfl⟩:∃j:Nat,i=j:=⟨i.toNat,by omega⟩;have hkj:k=j+1:=by omega
   have HA':Hid (wTo f y n m (j+1)=wTo f y n m n):=by show _=_;rw[<-hkj];exact HA.out
   have hjn:(j:Int)<(n:Int):=by omega
   obtain⟨hadr,c0,c1,c2⟩:=HO.out wr hbel j (by omega);subst hadr;obtain⟨⟨t,a,x⟩,ho⟩:∃o:Op3,opAt m j=o:=⟨_,rfl⟩;have hisop:=HOP.out _ (zal (show j<m.length by rw[HN.out];omega));rw[ho]at c0 c1 c2 hisop;obtain⟨ht1,ht6⟩:=zbu hisop;have HOA:Hid (opAt m j=(t,a,x)):=ho;simp only at c0 c1 c2 ht1 ht6;have HC:Hid (Calls Tryz.prog 187 #[.agg #[.int .i64 t,.int .i64 a,.int .i64 x],.pointer (some ⟨w.heap.size+1,0,none⟩),.pointer (some ⟨w.heap.size+2,0,none⟩),.pointer (some ⟨w.heap.size,0,none⟩)] wr fun e w'=>e=.returned (.bool (countB f y n (t,a,x)))/\Below wr.heap.size wr w'):=zqe f t a x y _ n cap _ _ _ wr (by omega) (by omega) s1 HE.out s0;have b0:=World.block_lt_of_cell? wr _ s0;have b1:=World.block_lt_of_cell? wr _ s1;simp only at b0 b1;clear ho hisop hkj hik HA hbel;cases hc:countB f y n (t,a,x)with
   | false =>
     rw[hc]at HC;have HM:Hid (wTo f y n m (j+1)=wTo f y n m j):=zwU (by rw[HOA.out];exact hc);clear hc;go_wp2_with (go_at_call 187;refine HC.out.mono ?_;rintro e w1 ⟨rfl,hb1⟩);have r0:=(hb1.cell (p:=⟨w.heap.size,0,none⟩) b0).trans s0;have r1:=(hb1.cell (p:=⟨w.heap.size+1,0,none⟩) b1).trans s1;go_roundw
     case rel=>exact⟨j,(j:Int)-1,by omega,by omega,by go_num,HB.out.trans (hb1.mono HB.out.size),r0,r1,HE.out.below hb1 HE.out.lt,by rw[<-HM.out];exact HA'.out⟩
     case measure=>simp[intOf]
   | true =>
     rw[hc]at HC;have HM:Hid (wTo f y n m n=t):=by show wTo f y n m n=t;rw[<-HA'.out,zzz (by rw[HOA.out];exact hc),HOA.out]
     clear hc;go_wp2_with (go_at_call 187;refine HC.out.mono ?_;rintro e w1 ⟨rfl,hb1⟩;have r0:=(hb1.cell (p:=⟨w.heap.size,0,none⟩) b0).trans s0;have q0:=(hb1.cell (p:=⟨b,off+j*3,none⟩) (World.block_lt_of_cell? wr _ c0)).trans c0);go_ret;exact⟨by rw[HM.out];rfl,HB.out.trans (hb1.mono HB.out.size)⟩
  ·obtain rfl:k=0:=by omega
   have hi:¬0<=i:=h0;clear hik;go_wp2_with fail;go_ret;exact⟨by rw[<-HA.out];rfl,HB.out⟩
end Go.Proofs.YthlhgiihngcobaaGreatDoor
namespace Go.Proofs.YthlhgiihngcobaaGreatDoor
open Go.RowKit
theorem zlw{P:Program}{ops:Array Oper}{o:Oper}{a:Act}{w:World}{K:Act->World->Prop}{Q:Exit->Act->World->Prop}{E:Prop}
  (hgd:o.guard=none) (N:FuncId) (A:Array Operand) (T:Array TypeId) (ho:o.op=.call { callee:=.value (.func N),args:=A,argTypes:=T })
  (vals:Array Value) (hv:A.map a.eval=vals) (hent:∀args W,(callFunc N args).run P W=.ok (.enter N args) W) (v:Value) (R:World->Prop)
  (hc:Calls P N vals w fun e w'=>e=.returned v/\R w') (h:∀w',R w'->K (a.put o.dst v) w') :
  if Region.wanted o (yielded ops a.tmps)=true then Oper.wp P o a w K Q else E:=by
 have hw:Region.wanted o (yielded ops a.tmps)=true:=by simp[Region.wanted,hgd]
 rw[if_pos hw];have hrun:(execOp a.eval o).run P w=.ok (.enter N vals) w:=by have h1:a.eval (.func N)=.func (.func N) #[] #[]:=rfl;simp[execOp,ho,resolve,h1,hv,Deferred.ofValue,invoke,hent]
 unfold Oper.wp;rw[hrun];show Calls P N vals w _;refine hc.mono ?_;rintro e w' ⟨rfl,hR⟩;exact h w' hR
theorem ziw(f:Nat->Int × Int):cells14 f=#[.int .i64 (f 0).1,.int .i64 (f 0).2,.int .i64 (f 1).1,.int .i64 (f 1).2,.int .i64 (f 2).1,.int .i64 (f 2).2,.int .i64 (f 3).1,.int .i64 (f 3).2,.int .i64 (f 4).1,.int .i64 (f 4).2,.int .i64 (f 5).1,.int .i64 (f 5).2,.int .i64 (f 6).1,.int .i64 (f 6).2]:=rfl
theorem zaw.all{w:World}{b:Nat}{f:Nat->Int × Int}(h:zaw w b f):w.cell? ⟨b,0,none⟩=some (.int .i64 (f 0).1)/\w.cell? ⟨b,1,none⟩=some (.int .i64 (f 0).2)/\w.cell? ⟨b,2,none⟩=some (.int .i64 (f 1).1)/\w.cell? ⟨b,3,none⟩=some (.int .i64 (f 1).2)/\w.cell? ⟨b,4,none⟩=some (.int .i64 (f 2).1)/\w.cell? ⟨b,5,none⟩=some (.int .i64 (f 2).2)/\w.cell? ⟨b,6,none⟩=some (.int .i64 (f 3).1)/\w.cell? ⟨b,7,none⟩=some (.int .i64 (f 3).2)/\w.cell? ⟨b,8,none⟩=some (.int .i64 (f 4).1)/\w.cell? ⟨b,9,none⟩=some (.int .i64 (f 4).2)/\w.cell? ⟨b,10,none⟩=some (.int .i64 (f 5).1)/\w.cell? ⟨b,11,none⟩=some (.int .i64 (f 5).2)/\w.cell? ⟨b,12,none⟩=some (.int .i64 (f 6).1)/\w.cell? ⟨b,13,none⟩=some (.int .i64 (f 6).2) :=⟨by rw[cell_of_row w b _ _ _ _ h];rfl,by rw[cell_of_row w b _ _ _ _ h];rfl,by rw[cell_of_row w b _ _ _ _ h];rfl,by rw[cell_of_row w b _ _ _ _ h];rfl,by rw[cell_of_row w b _ _ _ _ h];rfl,by rw[cell_of_row w b _ _ _ _ h];rfl,by rw[cell_of_row w b _ _ _ _ h];rfl,by rw[cell_of_row w b _ _ _ _ h];rfl,by rw[cell_of_row w b _ _ _ _ h];rfl,by rw[cell_of_row w b _ _ _ _ h];rfl,by rw[cell_of_row w b _ _ _ _ h];rfl,by rw[cell_of_row w b _ _ _ _ h];rfl,by rw[cell_of_row w b _ _ _ _ h];rfl,by rw[cell_of_row w b _ _ _ _ h];rfl⟩
def sTo(f:Nat->Int × Int)(l:List Op3):Nat->List zab
 | 0=>[]
 | k+1=>if(opAt l k).2.1=1 then sTo f l k++[((k:Int),wTo f (opAt l k).2.2 k (l.take k) k)]else sTo f l k
theorem zzq(f:Nat->Int × Int)(h:List Op3)(k:Nat):(sTo f h k).length<=k:=by
 induction k with
 | zero=>exact Nat.le_refl _
 | succ k ih =>
   rw[sTo];split
   ·rw[List.length_append];simp;omega
   ·omega
theorem zxP{h:List Op3}(hc:zgK h)(hop:∀o∈h,isOpB o=true)(y:Int){i:Nat}(hi:i<=h.length):∀k,k<=i->wTo (zdg h h.length) y i (h.take i) k=fromTo h y i k:=by
 intro k
 induction k with
 | zero=>intro _;rfl
 | succ k ih =>
   intro hk;have ht:=zbu (hop _ (zal (show k<h.length by omega)));rw[wTo,fromTo,zsj (show k<i by omega),ih (by omega)];have e:(countB (zdg h h.length) y i (opAt h k)=true)=((opAt h k).2.1=2/\(opAt h k).2.2=y/\zbl h (opAt h k).1 i≠4):=by unfold countB;rw[zjW hc hop ht.1 (.inr rfl) hi];simp
   by_cases hcase:(opAt h k).2.1=2/\(opAt h k).2.2=y/\zbl h (opAt h k).1 i≠4
   ·rw[if_pos hcase,if_pos (e ▸hcase)]
   ·rw[if_neg hcase,if_neg (e ▸hcase)]
theorem zzt{h:List Op3}(hc:zgK h)(hop:∀o∈h,isOpB o=true):∀k,k<=h.length->sTo (zdg h h.length) h k=zeQ h k:=by
 intro k
 induction k with
 | zero=>intro _;rfl
 | succ k ih =>intro hk;rw[sTo,zeQ,ih (by omega),zxP hc hop _ (by omega) k (Nat.le_refl _)];rfl
theorem zy0:(Tryz.prog.info? 126).map (fun i=>(i.zero,i.size,i.bytes))=some (some (.agg #[.int .i64 0,.int .i64 0]),2,16):=by kernel_rfl
theorem zzx(w:World)(t a:Int):∀j u,(flatE [(t,a)])[j]? = some u->(w.alloc (.cells #[.int .i64 t,.int .i64 a] 126)).cell? ((⟨w.heap.size,0,none⟩:Addr).add j)=some u:=by
 intro j u hj
 match j,hj with
 | 0,hj=>simp[flatE]at hj;subst hj;simp[Addr.add]
 | 1,hj=>simp[flatE]at hj;subst hj;simp[Addr.add]
 | k+2,hj=>simp[flatE]at hj
theorem zvp{W:World}{b off cap k:Nat}{l:List Op3}(hk:k<l.length)(hb:b<W.heap.size)(hat:zd4 W b off l):zai W (.slice (some ⟨b,off,none⟩) k cap) (l.take k):=by
 have hlk:(l.take k).length=k:=by rw[List.length_take];omega
 refine⟨some ⟨b,off,none⟩,b,off,cap,by rw[hlk],fun _=>rfl,fun h=>(by cases h),.inl hb,fun i hi=>?_⟩;have hik:i<k:=by rw[hlk]at hi;exact hi
 have:=hat i (by omega);rw[show(l.take k).getD i (0,0,0)=l.getD i (0,0,0)by simp[List.getD,hik]];exact this
theorem znk(f:Nat->Int × Int)(l:List Op3)(ad:Option Addr)(cap:Nat)(w:World)(hI:zai w (.slice ad l.length cap) l)(hcap:l.length<=cap)(hl:l.length<=40)(hop:∀o∈l,isOpB o=true):Calls Tryz.prog 63 #[.slice ad l.length cap,.agg (cells14 f)] w fun e w'=>∃v',e=.returned v'/\w'.ownsRow (w.heap.size+1) 126 2 v' (sTo f l l.length).length (flatE (sTo f l l.length))/\Below w.heap.size w w':=by
 obtain⟨ad',b,off,cap',he,had,-,hbB,hops⟩:=hI;simp only[Value.slice.injEq,true_and]at he;obtain⟨rfl,rfl⟩:=he;have HO:Hid (∀W,Below w.heap.size w W->∀k,k<l.length->ad=some ⟨b,off,none⟩/\W.cell? ⟨b,off+k*3,none⟩=some (.int .i64 (opAt l k).1)/\W.cell? ⟨b,off+k*3+1,none⟩=some (.int .i64 (opAt l k).2.1)/\W.cell? ⟨b,off+k*3+2,none⟩=some (.int .i64 (opAt l k).2.2)):=fun W hW k hk=>⟨had (by omega),(hops.below hW hbB) k hk⟩
 have HPRE:Hid (∀W,Below w.heap.size w W->∀k,k<l.length->zai W (.slice (some ⟨b,off,none⟩) k cap) (l.take k)):=fun W hW k hk=>zvp hk (by
  rcases hbB with h | h
  ·exact Nat.lt_of_lt_of_le h hW.size
  ·subst h;simp at hk) (hops.below hW hbB)
 have HOP:Hid (∀o∈l,isOpB o=true):=hop;obtain⟨i0,hi,hz0,hs0,hy0⟩:=info_parts zy0;have HI:Hid (Tryz.prog.info? 126=some i0/\i0.zero=some (.agg #[.int .i64 0,.int .i64 0])/\i0.size=2/\i0.bytes=16):=⟨hi,hz0,hs0,hy0⟩;clear had hbB hops hop hi hz0 hs0 hy0;go_enter Tryz.func63,Tryz.ntmps63;go_wp2
 go_loopw [5,10] (fun v5 v10 wr=>∃k:Nat,k<=l.length/\v10=.int .i64 k/\Below w.heap.size w wr/\zaw wr w.heap.size f/\wr.ownsRow (w.heap.size+1) 126 2 v5 (sTo f l k).length (flatE (sTo f l k))) (fun _ v10 _=>l.length-(intOf v10).toNat)
 case atStart=>exact⟨0,Nat.zero_le _,rfl,(Below.refl _ w).alloc (Nat.le_refl _) _,zdG w f,World.ownsRow_nil _ _ _ _⟩
 case round =>
  obtain⟨k,hk,rfl,hbel,hends,hown⟩:=hrel;have HBW:Hid (Below w.heap.size w wr):=hbel;have HE:Hid (zaw wr w.heap.size f):=hends;have hB1:=hends.lt;obtain⟨n1,hn1⟩:∃n1,(sTo f l k).length=n1:=⟨_,rfl⟩;have hn1b:n1<=40:=by rw[<-hn1];have:=zzq f l k;omega
  have HN1:Hid ((sTo f l k).length=n1):=hn1;rw[hn1]at hown;have HOWN:Hid (wr.ownsRow (w.heap.size+1) 126 2 u5 n1 (flatE (sTo f l k))):=hown;clear hends hown hn1;by_cases hlt:k<l.length
  ·have hlt':(k:Int)<(l.length:Int):=by omega
   obtain⟨hadr,c0,c1,c2⟩:=HO.out wr hbel k hlt;subst hadr;obtain⟨⟨t,a,x⟩,ho⟩:∃o:Op3,opAt l k=o:=⟨_,rfl⟩;rw[ho]at c0 c1 c2;have HOA:Hid (opAt l k=(t,a,x)):=ho;simp only at c0 c1 c2;clear ho hbel
   go_upto_region 5 with(fail)
   obtain⟨W,hW⟩:∃W,W=wr.alloc (.cells #[.int .i64 t,.int .i64 a,.int .i64 x] 103):=⟨_,rfl⟩;rw[<-hW];obtain⟨P,hP⟩:∃P,P=wr.heap.size:=⟨_,rfl⟩;rw[<-hP];have p1:W.cell? ⟨P,1,none⟩=some (.int .i64 a):=by rw[hW,hP];simp
   have p2:W.cell? ⟨P,2,none⟩=some (.int .i64 x):=by rw[hW,hP];simp
   have hbw:Below wr.heap.size wr W:=by rw[hW];exact(Below.refl _ wr).alloc (Nat.le_refl _) _
   have HEW:Hid (zaw W w.heap.size f):=HE.out.below hbw hB1;have HBW2:Hid (Below w.heap.size w W):=HBW.out.trans (hbw.mono HBW.out.size);have HOW:Hid (W.ownsRow (w.heap.size+1) 126 2 u5 n1 (flatE (sTo f l k))):=by show W.ownsRow _ _ _ _ _ _;rw[hW];exact HOWN.out.alloc _
   have hWs:w.heap.size<W.heap.size:=HEW.out.lt;clear hW hP hbw HE HBW HOWN c0 c1 c2;by_cases ha:a=1
   ·subst ha;have HRD:Hid (sTo f l (k+1)=sTo f l k++[((k:Int),wTo f x k (l.take k) k)]):=by show sTo f l (k+1)=_;rw[sTo,HOA.out,if_pos rfl]
    have HC:Hid (∀W',Below W.heap.size W W'->Calls Tryz.prog 130 #[.slice (some ⟨b,off,none⟩) k cap,.int .i64 x,.agg (cells14 f)] W' fun e w'=>e=.returned (.int .i64 (wTo f x k (l.take k) k))/\Below W.heap.size W w'):=fun W' hW'=>by
     have hlk:(l.take k).length=k:=by rw[List.length_take];omega
     have h1:=zq1 f x (l.take k) _ W' (HPRE.out W' (HBW2.out.trans (hW'.mono HBW2.out.size)) k hlt) (by omega) (fun o ho=>HOP.out o (List.mem_of_mem_take ho));rw[hlk]at h1;exact h1.mono fun e w' ⟨h2,h3⟩=>⟨h2,hW'.trans (h3.mono hW'.size)⟩
    obtain⟨r,hr⟩:∃r,wTo f x k (l.take k) k=r:=⟨_,rfl⟩;rw[hr]at HRD HC;clear hr;have hkc:(k:Int)<=(cap:Int):=by omega
    have hent:∀args W,(callFunc 130 args).run Tryz.prog W=.ok (.enter 130 args) W:=fun _ _=>by kernel_rfl
    have HENT:Hid (∀args W,(callFunc 130 args).run Tryz.prog W=.ok (.enter 130 args) W):=hent;obtain⟨e0,e1,e2,e3,e4,e5,e6,e7,e8,e9,e10,e11,e12,e13⟩:=HEW.out.all;clear hent;go_wp2_with fail
    go_region_law (first | (refine zlw rfl 130 _ _ rfl #[.slice (some ⟨b,off,none⟩) k cap,.int .i64 x,.agg (cells14 f)] (by rw[ziw];simp[Act.eval]) HENT.out (.int .i64 r) (fun w'=>Below W.heap.size W w') (HC.out W.drew (Below.refl _ W).drew) ?_;intro W1 hW1) | (refine zcD rfl (.tmp 18) (.tmp 28) 123 rfl (w.heap.size+1) 126 i0 (.agg #[.int .i64 0,.int .i64 0]) 2 16 Tryz.underlying123 HI.out.1 HI.out.2.1 HI.out.2.2.1 HI.out.2.2.2 rfl (by decide) u5 n1 (flatE (sTo f l k)) (by simp[Act.eval]) ((zaG HOW.out hW1 (Nat.le_refl _)).alloc _) ⟨W1.heap.size,0,none⟩ 1 1 (flatE [((k:Int),r)]) (by simp[Act.eval]) rfl (zzx W1 k r) (zes _) (by unfold maxLen;omega) (by omega) (by have:=hW1.size;simp;omega) ?_;intro v4 w4 hown4 hgr4 hnil4))
    all_goals
     have hbW1:Below w.heap.size w W1:=HBW2.out.trans (hW1.mono HBW2.out.size);have HEW1:zaw W1 w.heap.size f:=HEW.out.below hW1 hWs;have hlt1:=HEW1.lt;have HB4:Hid (Below w.heap.size w w4):=(hbW1.alloc hbW1.size _).grown hgr4 (by simp;omega) (fun q hq=>by have:=(HOW.out.lt q hq).1;omega);have HE4:Hid (zaw w4 w.heap.size f):=(HEW1.alloc _).same (hgr4.block _ (by simp;omega) (fun he=>by have:=(HOW.out.lt _ he.symm).1;omega));have HO4:Hid (w4.ownsRow (w.heap.size+1) 126 2 v4 (n1+1) (flatE (sTo f l k)++flatE [((k:Int),r)])):=hown4;clear hbW1 HEW1 hlt1 hown4 hgr4 hnil4 hW1 e0 e1 e2 e3 e4 e5 e6 e7 e8 e9 e10 e11 e12 e13 p1 p2;go_wp2_with fail;go_roundw
     case rel=>exact⟨k+1,by omega,by go_num,HB4.out,HE4.out,by rw[HRD.out,zcf,List.length_append,HN1.out];exact HO4.out⟩
     case measure=>simp[intOf];omega
   ·have ha1':(a == 1)=false:=by simpa using ha
    have HRD:Hid (sTo f l (k+1)=sTo f l k):=by show sTo f l (k+1)=sTo f l k;rw[sTo,HOA.out,if_neg ha]
    clear ha;go_wp2_with fail;go_roundw
    case rel=>exact⟨k+1,by omega,by go_num,HBW2.out,HEW.out,by rw[HRD.out,HN1.out];exact HOW.out⟩
    case measure=>simp[intOf];omega
  ·have hlt':¬(k:Int)<(l.length:Int):=by omega
   obtain rfl:k=l.length:=by omega
   clear hbel;go_wp2_with fail;go_ret;exact⟨_,rfl,by rw[HN1.out];exact HOWN.out,HBW.out⟩
end Go.Proofs.YthlhgiihngcobaaGreatDoor
namespace Go.Proofs.YthlhgiihngcobaaGreatDoor
open Go.RowKit
theorem zhi{W:World}{v:Value}{l:List Op3}(h:zai W v l){i:Nat}(hi:i<l.length){t a x:Int}(ho:opAt l i=(t,a,x)):∃b off cap,v=.slice (some ⟨b,off,none⟩) l.length cap/\b<W.heap.size/\W.cell? ⟨b,off+i*3,none⟩=some (.int .i64 t)/\W.cell? ⟨b,off+i*3+1,none⟩=some (.int .i64 a):=by
 obtain⟨ad,b,off,cap,hv,had,-,hbB,hops⟩:=h;have:=hops i hi;rw[show l.getD i (0,0,0)=(t,a,x)from ho]at this;rw[had (by omega)]at hv
 have hb:b<W.heap.size:=by
  rcases hbB with h | h
  ·exact h
  ·subst h;simp at hi
 exact⟨b,off,cap,hv,hb,this.1,this.2.1⟩
theorem zbJ(w:World)(t a:Int)(T:TypeId):(w.alloc (.cells #[.int .i64 t,.int .i64 a] T)).cell? ⟨w.heap.size,0,none⟩=some (.int .i64 t)/\(w.alloc (.cells #[.int .i64 t,.int .i64 a] T)).cell? ⟨w.heap.size,1,none⟩=some (.int .i64 a):=by simp
theorem zBK(l:List Op3)(i:Nat)(x:Int)(v:Value)(B1:Nat)(w:World)(hI:zai w v l)(hi:i<l.length)(hc:w.cell? ⟨B1,0,none⟩=some v):Calls Tryz.prog 64 #[.agg #[.int .i64 i,.int .i64 x],.pointer (some ⟨B1,0,none⟩)] w fun e w'=>e=.returned (.bool (zxT l ((i:Int),x)))/\Below w.heap.size w w':=by
 obtain⟨⟨t,a,y⟩,ho⟩:∃o:Op3,opAt l i=o:=⟨_,rfl⟩;obtain⟨b,off,cap,rfl,hb,c0,-⟩:=zhi hI hi ho;have HE:Hid (zxT l ((i:Int),x)=(x == 0 || x == t)):=by show zxT l ((i:Int),x)=_;unfold zxT;simp only[Int.toNat_natCast,ho]
 have bB:=World.block_lt_of_cell? w _ hc;simp only at bB;clear hI ho;go_enter Tryz.func64,Tryz.ntmps64
 go_upto_region 1 with(fail)
 obtain⟨W,hW⟩:∃W,W=w.alloc (.cells #[.int .i64 i,.int .i64 x] 126):=⟨_,rfl⟩;rw[<-hW];obtain⟨P,hP⟩:∃P,P=w.heap.size:=⟨_,rfl⟩;have p0:W.cell? ⟨P,0,none⟩=some (.int .i64 i):=by rw[hW,hP];exact(zbJ w _ _ _).1
 have p1:W.cell? ⟨P,1,none⟩=some (.int .i64 x):=by rw[hW,hP];exact(zbJ w _ _ _).2
 have hbw:Below w.heap.size w W:=by rw[hW];exact(Below.refl _ w).alloc (Nat.le_refl _) _
 have k0:=(hbw.cell (p:=⟨B1,0,none⟩) bB).trans hc;have k1:=(hbw.cell (p:=⟨b,off+i*3,none⟩) hb).trans c0;have HB:Hid (∀n,Below w.heap.size w (W.drewN n)):=fun n=>below_drewN hbw n;have hi':(i:Int)<(l.length:Int):=by omega
 rw[<-hP];clear hW hbw hc c0 hb bB hP;by_cases hx:x=0
 ·subst hx;go_wp2_with fail;go_quiet (fail);go_wp2_with fail;go_ret;exact⟨by rw[HE.out];rfl,HB.out _⟩
 ·have hx':(x == 0)=false:=by simpa using hx
  clear hx;go_wp2_with fail;go_quiet (fail);go_wp2_with fail;go_ret;exact⟨by rw[HE.out,hx'];simp,HB.out _⟩
theorem zwi(l:List Op3)(f:Nat->Int × Int)(i:Nat)(x:Int)(v:Value)(B1 B2:Nat)(w:World)(hI:zai w v l)(hop:∀o∈l,isOpB o=true)(hi:i<l.length)(hx0:0<=x)(hx7:x<7)(hc:w.cell? ⟨B1,0,none⟩=some v)(hE:zaw w B2 f):Calls Tryz.prog 65 #[.agg #[.int .i64 i,.int .i64 x],.pointer (some ⟨B2,0,none⟩),.pointer (some ⟨B1,0,none⟩)] w fun e w'=>e=.returned (.bool (zeV l f ((i:Int),x)))/\Below w.heap.size w w':=by
 obtain⟨⟨t,a,y⟩,ho⟩:∃o:Op3,opAt l i=o:=⟨_,rfl⟩;obtain⟨b,off,cap,rfl,hb,c0,-⟩:=zhi hI hi ho;have ht:=zbu (hop _ (zal hi));rw[ho]at ht;obtain⟨ht1,ht6⟩:=ht;simp only at ht1 ht6;obtain⟨⟨q,p⟩,hf⟩:∃n,f t.toNat=n:=⟨_,rfl⟩;have HE:Hid (zeV l f ((i:Int),x)=(q == 3 && !byE f x p 3)):=by show zeV l f ((i:Int),x)=_;unfold zeV;simp only[Int.toNat_natCast,ho,hf]
 have HF:Hid (f t.toNat=(q,p)):=hf;have bB:=World.block_lt_of_cell? w _ hc;simp only at bB;have HEN:Hid (zaw w B2 f):=hE;have ht0:0<=t:=by omega
 have ht7:t<7:=by omega
 clear hI ho hf hop hE ht1 ht6;go_enter Tryz.func65,Tryz.ntmps65
 go_upto_region 1 with(fail)
 obtain⟨W,hW⟩:∃W,W=w.alloc (.cells #[.int .i64 i,.int .i64 x] 126):=⟨_,rfl⟩;rw[<-hW];obtain⟨P,hP⟩:∃P,P=w.heap.size:=⟨_,rfl⟩;have p0:W.cell? ⟨P,0,none⟩=some (.int .i64 i):=by rw[hW,hP];exact(zbJ w _ _ _).1
 have p1:W.cell? ⟨P,1,none⟩=some (.int .i64 x):=by rw[hW,hP];exact(zbJ w _ _ _).2
 have hbw:Below w.heap.size w W:=by rw[hW];exact(Below.refl _ w).alloc (Nat.le_refl _) _
 have k0:=(hbw.cell (p:=⟨B1,0,none⟩) bB).trans hc;have k1:=(hbw.cell (p:=⟨b,off+i*3,none⟩) hb).trans c0;have HEW:Hid (zaw W B2 f):=HEN.out.below hbw HEN.out.lt;obtain⟨d0,d1⟩:=HEW.out.cells (x:=t.toNat) (by omega) HF.out;have hPW:P<W.heap.size:=World.block_lt_of_cell? W _ p0;have HB:Hid (Below w.heap.size w W):=hbw;have hi':(i:Int)<(l.length:Int):=by omega
 rw[<-hP];clear hW hbw hc c0 hb bB hP
 go_upto_region 2 with(fail)
 obtain⟨V,hV⟩:∃V,V=W.alloc (.cells #[.int .i64 q,.int .i64 p] 119):=⟨_,rfl⟩;rw[<-hV];obtain⟨R,hR⟩:∃R,R=W.heap.size:=⟨_,rfl⟩;have q0:V.cell? ⟨R,0,none⟩=some (.int .i64 q):=by rw[hV,hR];exact(zbJ W _ _ _).1
 have q1:V.cell? ⟨R,1,none⟩=some (.int .i64 p):=by rw[hV,hR];exact(zbJ W _ _ _).2
 have hbv:Below W.heap.size W V:=by rw[hV];exact(Below.refl _ W).alloc (Nat.le_refl _) _
 have q2:=(hbv.cell (p:=⟨P,1,none⟩) hPW).trans p1;have HEV:Hid (zaw V B2 f):=HEW.out.below hbv HEW.out.lt;have HBV:Hid (Below w.heap.size w V):=HB.out.trans (hbv.mono HB.out.size);rw[<-hR];clear hV hbv hR p0 p1 k0 k1 d0 d1 hPW HEW HB;by_cases hq:q=3
 ·subst hq;go_wp2_with (refine wpList_load_row1 rfl 121 (.tmp 1) rfl B2 rfl 121 (cells14 f) (0,0) _ HEV.out Tryz.underlying121 rfl (zbn _) ?_);refine(zdo f x p _ hx0 hx7).mono ?_;rintro e w1 ⟨rfl,hb1⟩;have HB1:Hid (Below w.heap.size w w1):=HBV.out.trans (hb1.mono HBV.out.size);clear hb1;go_wp2_with fail;go_ret;exact⟨by rw[HE.out];rfl,HB1.out⟩
 ·have hq':(q == 3)=false:=by simpa using hq
  clear hq;go_wp2_with fail;go_ret;exact⟨by rw[HE.out,hq'];rfl,HBV.out⟩
theorem zwD(f:Nat->Int × Int)(i:Nat)(x:Int)(B2:Nat)(w:World)(hx0:0<=x)(hx7:x<7)(hE:zaw w B2 f):Calls Tryz.prog 67 #[.agg #[.int .i64 i,.int .i64 x],.pointer (some ⟨B2,0,none⟩)] w fun e w'=>e=.returned (.bool (zhu f ((i:Int),x)))/\Below w.heap.size w w':=by
 have HEN:Hid (zaw w B2 f):=hE;clear hE;go_enter Tryz.func67,Tryz.ntmps67
 go_upto_region 1 with(fail)
 obtain⟨W,hW⟩:∃W,W=w.alloc (.cells #[.int .i64 i,.int .i64 x] 126):=⟨_,rfl⟩;rw[<-hW];obtain⟨P,hP⟩:∃P,P=w.heap.size:=⟨_,rfl⟩;have p0:W.cell? ⟨P,0,none⟩=some (.int .i64 i):=by rw[hW,hP];exact(zbJ w _ _ _).1
 have p1:W.cell? ⟨P,1,none⟩=some (.int .i64 x):=by rw[hW,hP];exact(zbJ w _ _ _).2
 have hbw:Below w.heap.size w W:=by rw[hW];exact(Below.refl _ w).alloc (Nat.le_refl _) _
 have HEW:Hid (zaw W B2 f):=HEN.out.below hbw HEN.out.lt;have HB:Hid (Below w.heap.size w W):=hbw;rw[<-hP];clear hW hbw hP;go_wp2_with (refine wpList_load_row rfl 121 (.tmp 1) rfl B2 rfl 121 (cells14 f) (0,0) _ HEW.out Tryz.underlying121 rfl (zbn _) ?_);refine(zdo f x i _ hx0 hx7).mono ?_;rintro e w1 ⟨rfl,hb1⟩;have HB1:Hid (Below w.heap.size w w1):=HB.out.trans (hb1.mono HB.out.size);clear hb1;go_wp2_with fail;go_ret;exact⟨rfl,HB1.out⟩
theorem zsb(l:List Op3)(f:Nat->Int × Int)(i j:Nat)(v:Value)(B1 B2:Nat)(w:World)(hI:zai w v l)(hop:∀o∈l,isOpB o=true)(hi:i<l.length)(hc:w.cell? ⟨B1,0,none⟩=some v)(hE:zaw w B2 f):Calls Tryz.prog 68 #[.agg #[.int .i64 i,.int .i64 j],.pointer (some ⟨B2,0,none⟩),.pointer (some ⟨B1,0,none⟩)] w fun e w'=>e=.returned (.bool (zgo l f ((i:Int),(j:Int))))/\Below w.heap.size w w':=by
 obtain⟨⟨t,a,y⟩,ho⟩:∃o:Op3,opAt l i=o:=⟨_,rfl⟩;obtain⟨b,off,cap,rfl,hb,c0,-⟩:=zhi hI hi ho;have ht:=zbu (hop _ (zal hi));rw[ho]at ht;obtain⟨ht1,ht6⟩:=ht;simp only at ht1 ht6;obtain⟨r,hr⟩:∃r,(byE f t j 3 || byE f t j 4)=r:=⟨_,rfl⟩;have HE:Hid (zgo l f ((i:Int),(j:Int))=!r):=by show zgo l f ((i:Int),(j:Int))=_;unfold zgo;simp only[Int.toNat_natCast,ho];rw[hr]
 have bB:=World.block_lt_of_cell? w _ hc;simp only at bB;have HEN:Hid (zaw w B2 f):=hE;have HCA:Hid (∀W,Calls Tryz.prog 69 #[.agg #[.int .i64 (f 0).1,.int .i64 (f 0).2,.int .i64 (f 1).1,.int .i64 (f 1).2,.int .i64 (f 2).1,.int .i64 (f 2).2,.int .i64 (f 3).1,.int .i64 (f 3).2,.int .i64 (f 4).1,.int .i64 (f 4).2,.int .i64 (f 5).1,.int .i64 (f 5).2,.int .i64 (f 6).1,.int .i64 (f 6).2],.int .i64 t,.int .i64 j] W fun e w'=>e=.returned (.bool r)/\Below W.heap.size W w'):=fun W=>by have h1:=ztH f t j W (by omega) (by omega);rw[hr,ziw]at h1;exact h1
 clear hI ho hop hE ht1 ht6 hr;go_enter Tryz.func68,Tryz.ntmps68
 go_upto_region 1 with(fail)
 obtain⟨W,hW⟩:∃W,W=w.alloc (.cells #[.int .i64 i,.int .i64 j] 131):=⟨_,rfl⟩;rw[<-hW];obtain⟨P,hP⟩:∃P,P=w.heap.size:=⟨_,rfl⟩;have p0:W.cell? ⟨P,0,none⟩=some (.int .i64 i):=by rw[hW,hP];exact(zbJ w _ _ _).1
 have p1:W.cell? ⟨P,1,none⟩=some (.int .i64 j):=by rw[hW,hP];exact(zbJ w _ _ _).2
 have hbw:Below w.heap.size w W:=by rw[hW];exact(Below.refl _ w).alloc (Nat.le_refl _) _
 have k0:=(hbw.cell (p:=⟨B1,0,none⟩) bB).trans hc;have k1:=(hbw.cell (p:=⟨b,off+i*3,none⟩) hb).trans c0;have HEW:Hid (zaw W B2 f):=HEN.out.below hbw HEN.out.lt;have hPW:P<W.heap.size:=World.block_lt_of_cell? W _ p0;have hB1W:B1<W.heap.size:=World.block_lt_of_cell? W _ k0;have hbW:b<W.heap.size:=World.block_lt_of_cell? W _ k1;have HB:Hid (Below w.heap.size w W):=hbw;have hi':(i:Int)<(l.length:Int):=by omega
 rw[<-hP];clear hW hbw hc c0 hb bB hP;obtain⟨B,hA1,hA2⟩:∃B,B<=W.heap.size/\W.heap.size<=B:=⟨_,Nat.le_refl _,Nat.le_refl _⟩;have hne:Nonempty (zbe B W):=⟨⟨W,Below.refl _ _⟩⟩;have g0:∀y:zbe B W,y.W.cell? ⟨P,0,none⟩=some (.int .i64 i):=fun y=>(y.h.cell (p:=⟨P,0,none⟩) (by show P<B;omega)).trans p0;have g1:∀y:zbe B W,y.W.cell? ⟨P,1,none⟩=some (.int .i64 j):=fun y=>(y.h.cell (p:=⟨P,1,none⟩) (by show P<B;omega)).trans p1;have g2:∀y:zbe B W,y.W.cell? ⟨B1,0,none⟩=some (.slice (some ⟨b,off,none⟩) l.length cap):=fun y=>(y.h.cell (p:=⟨B1,0,none⟩) (by show B1<B;omega)).trans k0;have g3:∀y:zbe B W,y.W.cell? ⟨b,off+i*3,none⟩=some (.int .i64 t):=fun y=>(y.h.cell (p:=⟨b,off+i*3,none⟩) (by show b<B;omega)).trans k1;have E0:∀y:zbe B W,y.W.cell? ⟨B2,0,none⟩=some (.int .i64 (f 0).1):=fun y=>by rw[cell_of_row y.W B2 _ _ _ _ (HEW.out.below y.h (by have:=HEW.out.lt;omega))];rfl
 have E1:∀y:zbe B W,y.W.cell? ⟨B2,1,none⟩=some (.int .i64 (f 0).2):=fun y=>by rw[cell_of_row y.W B2 _ _ _ _ (HEW.out.below y.h (by have:=HEW.out.lt;omega))];rfl
 have E2:∀y:zbe B W,y.W.cell? ⟨B2,2,none⟩=some (.int .i64 (f 1).1):=fun y=>by rw[cell_of_row y.W B2 _ _ _ _ (HEW.out.below y.h (by have:=HEW.out.lt;omega))];rfl
 have E3:∀y:zbe B W,y.W.cell? ⟨B2,3,none⟩=some (.int .i64 (f 1).2):=fun y=>by rw[cell_of_row y.W B2 _ _ _ _ (HEW.out.below y.h (by have:=HEW.out.lt;omega))];rfl
 have E4:∀y:zbe B W,y.W.cell? ⟨B2,4,none⟩=some (.int .i64 (f 2).1):=fun y=>by rw[cell_of_row y.W B2 _ _ _ _ (HEW.out.below y.h (by have:=HEW.out.lt;omega))];rfl
 have E5:∀y:zbe B W,y.W.cell? ⟨B2,5,none⟩=some (.int .i64 (f 2).2):=fun y=>by rw[cell_of_row y.W B2 _ _ _ _ (HEW.out.below y.h (by have:=HEW.out.lt;omega))];rfl
 have E6:∀y:zbe B W,y.W.cell? ⟨B2,6,none⟩=some (.int .i64 (f 3).1):=fun y=>by rw[cell_of_row y.W B2 _ _ _ _ (HEW.out.below y.h (by have:=HEW.out.lt;omega))];rfl
 have E7:∀y:zbe B W,y.W.cell? ⟨B2,7,none⟩=some (.int .i64 (f 3).2):=fun y=>by rw[cell_of_row y.W B2 _ _ _ _ (HEW.out.below y.h (by have:=HEW.out.lt;omega))];rfl
 have E8:∀y:zbe B W,y.W.cell? ⟨B2,8,none⟩=some (.int .i64 (f 4).1):=fun y=>by rw[cell_of_row y.W B2 _ _ _ _ (HEW.out.below y.h (by have:=HEW.out.lt;omega))];rfl
 have E9:∀y:zbe B W,y.W.cell? ⟨B2,9,none⟩=some (.int .i64 (f 4).2):=fun y=>by rw[cell_of_row y.W B2 _ _ _ _ (HEW.out.below y.h (by have:=HEW.out.lt;omega))];rfl
 have E10:∀y:zbe B W,y.W.cell? ⟨B2,10,none⟩=some (.int .i64 (f 5).1):=fun y=>by rw[cell_of_row y.W B2 _ _ _ _ (HEW.out.below y.h (by have:=HEW.out.lt;omega))];rfl
 have E11:∀y:zbe B W,y.W.cell? ⟨B2,11,none⟩=some (.int .i64 (f 5).2):=fun y=>by rw[cell_of_row y.W B2 _ _ _ _ (HEW.out.below y.h (by have:=HEW.out.lt;omega))];rfl
 have E12:∀y:zbe B W,y.W.cell? ⟨B2,12,none⟩=some (.int .i64 (f 6).1):=fun y=>by rw[cell_of_row y.W B2 _ _ _ _ (HEW.out.below y.h (by have:=HEW.out.lt;omega))];rfl
 have E13:∀y:zbe B W,y.W.cell? ⟨B2,13,none⟩=some (.int .i64 (f 6).2):=fun y=>by rw[cell_of_row y.W B2 _ _ _ _ (HEW.out.below y.h (by have:=HEW.out.lt;omega))];rfl
 have HCQ:Hid (∀y:zbe B W,Calls Tryz.prog 69 #[.agg #[.int .i64 (f 0).1,.int .i64 (f 0).2,.int .i64 (f 1).1,.int .i64 (f 1).2,.int .i64 (f 2).1,.int .i64 (f 2).2,.int .i64 (f 3).1,.int .i64 (f 3).2,.int .i64 (f 4).1,.int .i64 (f 4).2,.int .i64 (f 5).1,.int .i64 (f 5).2,.int .i64 (f 6).1,.int .i64 (f 6).2],.int .i64 t,.int .i64 j] y.W fun e w'=>e=.returned (.bool r)/\∃z:zbe B W,w'=z.W):=fun y=>zbe.at y hA1 (HCA.out y.W);clear p0 p1 k0 k1 hPW hB1W hbW;go_wp2_with fail;refine zc2 B (by kernel_rfl) (by kernel_rfl) ?_;repeat (first | go_big_quiet_skip | (go_big_quiet_want;go_big_quiet_op;first | go_big_quiet_on | (refine⟨_,fun y=>HCQ.out y,?_⟩;go_big_quiet_on)))
 refine wpQuiet_nil ?_;intro V hV;obtain⟨y,rfl⟩:=hV;have HBY:Hid (Below w.heap.size w y.W):=HB.out.trans (y.h.mono (by have:=HB.out.size;omega));go_wp2_with fail;go_ret;exact⟨by rw[HE.out];rfl,HBY.out⟩
end Go.Proofs.YthlhgiihngcobaaGreatDoor
namespace Go.Proofs.YthlhgiihngcobaaGreatDoor
open Go.RowKit
def edV(x:zab):Value:=.agg #[.int .i64 x.1,.int .i64 x.2]
theorem zn9{q:zab->Bool}{l:List zab}{k:Nat}{e:zab}(h:l.take (k+1)=l.take k++[e])(h1:(l.take k).any q=false)(h2:q e=false):(l.take (k+1)).any q=false:=by rw[h,List.any_append,h1];simp[h2]
def zcG(l:List zab)(q:zab->Bool)(n:Int):Prop:=(n=-1/\l.any q=false)\/∃k:Nat,n=k/\k<l.length/\q (l.getD k (0,0))=true/\(l.take k).any q=false
theorem zl4{l:List zab}{k:Nat}(h:k<l.length):l.getD k (0,0)∈l:=by simp[List.getD,h]
theorem zcG.sign{l:List zab}{q:zab->Bool}{n:Int}(h:zcG l q n):decide (0<=n)=l.any q:=by
 rcases h with⟨rfl,h⟩ | ⟨k,rfl,hk,hq,_⟩
 ·rw[h];rfl
 ·have:l.any q=true:=List.any_eq_true.2 ⟨_,zl4 hk,hq⟩;rw[this];simp
theorem zcG.none{l:List zab}{q:zab->Bool}(h:l.any q=false):zcG l q (-1):=.inl ⟨rfl,h⟩
theorem zcG.some{l:List zab}{q:zab->Bool}{k:Nat}{e:zab}(hk:k<l.length)(he:l.getD k (0,0)=e)(hq:q e=true)(h:(l.take k).any q=false):zcG l q (k:Int):=.inr ⟨k,rfl,hk,by rw[he];exact hq,h⟩
theorem zjG(l:List zab)(v:Value)(q:zab->Bool)(N:Nat)(C:Array Value)(w:World)(hcall:∀(args:Array Value) (W:World),(callFunc N args).run Tryz.prog W=.ok (.enter N args) W)(hI:zaj w v l)(hlen:l.length<=140737488351)
  (hp:∀W:World,Below w.heap.size w W->∀e∈l,Calls Tryz.prog N (#[edV e]++C) W fun r w'=>r=.returned (.bool (q e))/\Below W.heap.size W w') :
  Calls Tryz.prog 132 #[v,.func (.func N) #[] C] w fun r w'=>∃n:Int,r=.returned (.int .i64 n)/\zcG l q n/\Below w.heap.size w w':=by
 obtain⟨ad,b,off,cap,rfl,ha,_,hbB,hops⟩:=hI;have HO:Hid (∀W,Below w.heap.size w W->∀k,k<l.length->ad=some ⟨b,off,none⟩/\W.cell? ⟨b,off+k*2,none⟩=some (.int .i64 (l.getD k (0,0)).1)/\W.cell? ⟨b,off+k*2+1,none⟩=some (.int .i64 (l.getD k (0,0)).2)):=fun W hW k hk=>⟨ha (by omega),(hops.below hW hbB) k hk⟩;have HP:Hid (∀W:World,Below w.heap.size w W->∀e∈l,Calls Tryz.prog N (#[edV e]++C) W fun r w'=>r=.returned (.bool (q e))/\Below W.heap.size W w'):=hp;clear ha hbB hops hp;go_enter Tryz.func132,Tryz.ntmps132;go_wp2
 go_loopw [8] (fun v8 wr=>∃k:Nat,k<=l.length/\v8=.int .i64 k/\(l.take k).any q=false/\Below w.heap.size w wr) (fun v8 _=>l.length-(intOf v8).toNat)
 case atStart=>exact⟨0,Nat.zero_le _,rfl,by simp,Below.refl _ _⟩
 case round =>
  obtain⟨k,hk,rfl,hno,hbel⟩:=hrel;have HNO:Hid ((l.take k).any q=false):=hno;clear hno;have hsz:=hbel.size;by_cases hlt:k<l.length
  ·have hlt':(k:Int)<(l.length:Int):=by omega
   obtain⟨rfl,c0,c1⟩:=HO.out wr hbel k hlt;obtain⟨⟨t,a⟩,ho⟩:∃o:zab,l.getD k (0,0)=o:=⟨_,rfl⟩;rw[ho]at c0 c1;have hmem:(t,a)∈l:=by rw[<-ho];exact zl4 hlt
   have HT:Hid (l.take (k+1)=l.take k++[(t,a)]):=by show l.take (k+1)=l.take k++[(t,a)];rw[List.take_succ_eq_append_getElem hlt,<-ho];simp[List.getD,List.getElem?_eq_getElem hlt]
   have HM:Hid ((t,a)∈l):=hmem;have HG:Hid (l.getD k (0,0)=(t,a)):=ho;clear ho HO hmem;simp only at c0 c1;cases hq:q (t,a)with
   | false =>
     have HQ:Hid (q (t,a)=false):=hq;have HC:Hid (Calls Tryz.prog N (#[.agg #[.int .i64 t,.int .i64 a]]++C) wr fun r w'=>r=.returned (.bool false)/\Below wr.heap.size wr w'):=hq ▸HP.out wr hbel _ HM.out;clear hq;go_wp2_with fail;refine HC.out.mono ?_;rintro e w1 ⟨rfl,hb1⟩;go_wp2_with fail;go_roundw
     case rel=>exact⟨k+1,by omega,by go_num,zn9 HT.out HNO.out HQ.out,hbel.trans (hb1.mono hsz)⟩
     case measure=>simp[intOf];omega
   | true =>have HQ:Hid (q (t,a)=true):=hq;have HC:Hid (Calls Tryz.prog N (#[.agg #[.int .i64 t,.int .i64 a]]++C) wr fun r w'=>r=.returned (.bool true)/\Below wr.heap.size wr w'):=hq ▸HP.out wr hbel _ HM.out;clear hq;go_wp2_with fail;refine HC.out.mono ?_;rintro e w1 ⟨rfl,hb1⟩;go_wp2_with fail;go_ret;exact⟨_,rfl,zcG.some hlt HG.out HQ.out HNO.out,hbel.trans (hb1.mono hsz)⟩
  ·have hlt':¬(k:Int)<(l.length:Int):=by omega
   go_wp2_with fail;go_ret;refine⟨_,rfl,zcG.none ?_,hbel⟩;have h0:=HNO.out;rw[List.take_of_length_le (by omega)]at h0;exact h0
theorem zbA(l:List zab)(v:Value)(q:zab->Bool)(N:Nat)(C:Array Value)(w:World)(hcall:∀(args:Array Value) (W:World),(callFunc N args).run Tryz.prog W=.ok (.enter N args) W)(hI:zaj w v l)(hlen:l.length<=140737488351)
  (hp:∀W:World,Below w.heap.size w W->∀e∈l,Calls Tryz.prog N (#[edV e]++C) W fun r w'=>r=.returned (.bool (q e))/\Below W.heap.size W w') :
  Calls Tryz.prog 72 #[v,.func (.func N) #[] C] w fun r w'=>r=.returned (.bool (l.any q))/\Below w.heap.size w w':=by
 have HC:Hid (Calls Tryz.prog 132 #[v,.func (.func N) #[] C] w fun r w'=>∃n:Int,r=.returned (.int .i64 n)/\zcG l q n/\Below w.heap.size w w'):=zjG l v q N C w hcall hI hlen hp;clear hp hI hcall;go_enter Tryz.func72,Tryz.ntmps72;go_wp2_with (go_at_call 132;refine HC.out.mono ?_;rintro e w1 ⟨n,rfl,hn,hb1⟩;have hn1:=hn.sign;clear hn);all_goals go_ret
 all_goals exact⟨ret_bool (by simp_all),hb1⟩
end Go.Proofs.YthlhgiihngcobaaGreatDoor
