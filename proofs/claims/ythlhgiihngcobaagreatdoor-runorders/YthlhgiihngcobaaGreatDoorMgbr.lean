/-
  PROVED HERE: faces.sources tells of each Read of a list the deal that wrote the item last ahead of it, of those that had; the five closures of faces.Of, in whatever world holds the list and the row of ends.
  Conditions: none but those that each theorem's own premises say.
-/
import Derived.Test.YthlhgiihngcobaaGreatDoorMgbq
import Derived.Test.YthlhgiihngcobaaGreatDoorMgap
import Derived.Test.YthlhgiihngcobaaGreatDoorMgaj
set_option maxHeartbeats 32000000
set_option maxRecDepth 100000
namespace Go.Proofs.YthlhgiihngcobaaGreatDoor
open Go.RowKit
theorem zf8{P:Program}{ops:Array Oper}{o:Oper}{a:Act}{w:World}{K:Act->World->Prop}{Q:Exit->Act->World->Prop}{E:Prop}
  (hgd:o.guard=none) (N:FuncId) (A:Array Operand) (T:Array TypeId) (ho:o.op=.call { callee:=.value (.func N),args:=A,argTypes:=T })
  (vals:Array Value) (hv:A.map a.eval=vals) (hent:∀args W,(callFunc N args).run P W=.ok (.enter N args) W) (v:Value) (R:World->Prop)
  (hc:Calls P N vals w fun e w'=>e=.returned v/\R w') (h:∀w',R w'->K (a.put o.dst v) w') :
  if Region.wanted o (yielded ops a.tmps)=true then Oper.wp P o a w K Q else E:=by
 have hw:Region.wanted o (yielded ops a.tmps)=true:=by simp[Region.wanted,hgd]
 rw[if_pos hw];have hrun:(execOp a.eval o).run P w=.ok (.enter N vals) w:=by have h1:a.eval (.func N)=.func (.func N) #[] #[]:=rfl;simp[execOp,ho,resolve,h1,hv,Deferred.ofValue,invoke,hent]
 unfold Oper.wp;rw[hrun];show Calls P N vals w _;refine hc.mono ?_;rintro e w' ⟨rfl,hR⟩;exact h w' hR
theorem zd9(f:Nat->Int × Int):cells14 f=#[.int .i64 (f 0).1,.int .i64 (f 0).2,.int .i64 (f 1).1,.int .i64 (f 1).2,.int .i64 (f 2).1,.int .i64 (f 2).2,.int .i64 (f 3).1,.int .i64 (f 3).2,.int .i64 (f 4).1,.int .i64 (f 4).2,.int .i64 (f 5).1,.int .i64 (f 5).2,.int .i64 (f 6).1,.int .i64 (f 6).2]:=rfl
theorem zad.all{w:World}{b:Nat}{f:Nat->Int × Int}(h:zad w b f):w.cell? ⟨b,0,none⟩=some (.int .i64 (f 0).1)/\w.cell? ⟨b,1,none⟩=some (.int .i64 (f 0).2)/\w.cell? ⟨b,2,none⟩=some (.int .i64 (f 1).1)/\w.cell? ⟨b,3,none⟩=some (.int .i64 (f 1).2)/\w.cell? ⟨b,4,none⟩=some (.int .i64 (f 2).1)/\w.cell? ⟨b,5,none⟩=some (.int .i64 (f 2).2)/\w.cell? ⟨b,6,none⟩=some (.int .i64 (f 3).1)/\w.cell? ⟨b,7,none⟩=some (.int .i64 (f 3).2)/\w.cell? ⟨b,8,none⟩=some (.int .i64 (f 4).1)/\w.cell? ⟨b,9,none⟩=some (.int .i64 (f 4).2)/\w.cell? ⟨b,10,none⟩=some (.int .i64 (f 5).1)/\w.cell? ⟨b,11,none⟩=some (.int .i64 (f 5).2)/\w.cell? ⟨b,12,none⟩=some (.int .i64 (f 6).1)/\w.cell? ⟨b,13,none⟩=some (.int .i64 (f 6).2) :=⟨by rw[cell_of_row w b _ _ _ _ h];rfl,by rw[cell_of_row w b _ _ _ _ h];rfl,by rw[cell_of_row w b _ _ _ _ h];rfl,by rw[cell_of_row w b _ _ _ _ h];rfl,by rw[cell_of_row w b _ _ _ _ h];rfl,by rw[cell_of_row w b _ _ _ _ h];rfl,by rw[cell_of_row w b _ _ _ _ h];rfl,by rw[cell_of_row w b _ _ _ _ h];rfl,by rw[cell_of_row w b _ _ _ _ h];rfl,by rw[cell_of_row w b _ _ _ _ h];rfl,by rw[cell_of_row w b _ _ _ _ h];rfl,by rw[cell_of_row w b _ _ _ _ h];rfl,by rw[cell_of_row w b _ _ _ _ h];rfl,by rw[cell_of_row w b _ _ _ _ h];rfl⟩
def sTo(f:Nat->Int × Int)(l:List Op3):Nat->List zaa
 | 0=>[]
 | k+1=>if(opAt l k).2.1=1 then sTo f l k++[((k:Int),wTo f (opAt l k).2.2 k (l.take k) k)]else sTo f l k
theorem zmD(f:Nat->Int × Int)(h:List Op3)(k:Nat):(sTo f h k).length<=k:=by
 induction k with
 | zero=>exact Nat.le_refl _
 | succ k ih =>
   rw[sTo];split
   ·rw[List.length_append];simp;omega
   ·omega
theorem zl9{h:List Op3}(hc:zeF h)(hop:∀o∈h,isOpB o=true)(y:Int){i:Nat}(hi:i<=h.length):∀k,k<=i->wTo (zbI h h.length) y i (h.take i) k=fromTo h y i k:=by
 intro k
 induction k with
 | zero=>intro _;rfl
 | succ k ih =>
   intro hk;have ht:=zaG (hop _ (zaj (show k<h.length by omega)));rw[wTo,fromTo,zf9 (show k<i by omega),ih (by omega)];have e:(countB (zbI h h.length) y i (opAt h k)=true)=((opAt h k).2.1=2/\(opAt h k).2.2=y/\zaJ h (opAt h k).1 i≠4):=by unfold countB;rw[zfD hc hop ht.1 (.inr rfl) hi];simp
   by_cases hcase:(opAt h k).2.1=2/\(opAt h k).2.2=y/\zaJ h (opAt h k).1 i≠4
   ·rw[if_pos hcase,if_pos (e ▸hcase)]
   ·rw[if_neg hcase,if_neg (e ▸hcase)]
theorem zni{h:List Op3}(hc:zeF h)(hop:∀o∈h,isOpB o=true):∀k,k<=h.length->sTo (zbI h h.length) h k=zcA h k:=by
 intro k
 induction k with
 | zero=>intro _;rfl
 | succ k ih =>intro hk;rw[sTo,zcA,ih (by omega),zl9 hc hop _ (by omega) k (Nat.le_refl _)];rfl
theorem zmZ:(Tryz.prog.info? 126).map (fun i=>(i.zero,i.size,i.bytes))=some (some (.agg #[.int .i64 0,.int .i64 0]),2,16):=by kernel_rfl
theorem zmV(w:World)(t a:Int):∀j u,(flatE [(t,a)])[j]? = some u->(w.alloc (.cells #[.int .i64 t,.int .i64 a] 126)).cell? ((⟨w.heap.size,0,none⟩:Addr).add j)=some u:=by
 intro j u hj
 match j,hj with
 | 0,hj=>simp[flatE]at hj;subst hj;simp[Addr.add]
 | 1,hj=>simp[flatE]at hj;subst hj;simp[Addr.add]
 | k+2,hj=>simp[flatE]at hj
theorem zkt{W:World}{b off cap k:Nat}{l:List Op3}(hk:k<l.length)(hb:b<W.heap.size)(hat:zdw W b off l):zal W (.slice (some ⟨b,off,none⟩) k cap) (l.take k):=by
 have hlk:(l.take k).length=k:=by rw[List.length_take];omega
 refine⟨some ⟨b,off,none⟩,b,off,cap,by rw[hlk],fun _=>rfl,fun h=>(by cases h),.inl hb,fun i hi=>?_⟩;have hik:i<k:=by rw[hlk]at hi;exact hi
 have:=hat i (by omega);rw[show(l.take k).getD i (0,0,0)=l.getD i (0,0,0)by simp[List.getD,hik]];exact this
theorem zgD(f:Nat->Int × Int)(l:List Op3)(ad:Option Addr)(cap:Nat)(w:World)(hI:zal w (.slice ad l.length cap) l)(hcap:l.length<=cap)(hl:l.length<=40)(hop:∀o∈l,isOpB o=true):Calls Tryz.prog 63 #[.slice ad l.length cap,.agg (cells14 f)] w fun e w'=>∃v',e=.returned v'/\w'.ownsRow (w.heap.size+1) 126 2 v' (sTo f l l.length).length (flatE (sTo f l l.length))/\Below w.heap.size w w':=by
 obtain⟨ad',b,off,cap',he,had,-,hbB,hops⟩:=hI;simp only[Value.slice.injEq,true_and]at he;obtain⟨rfl,rfl⟩:=he;have HO:Hid (∀W,Below w.heap.size w W->∀k,k<l.length->ad=some ⟨b,off,none⟩/\W.cell? ⟨b,off+k*3,none⟩=some (.int .i64 (opAt l k).1)/\W.cell? ⟨b,off+k*3+1,none⟩=some (.int .i64 (opAt l k).2.1)/\W.cell? ⟨b,off+k*3+2,none⟩=some (.int .i64 (opAt l k).2.2)):=fun W hW k hk=>⟨had (by omega),(hops.below hW hbB) k hk⟩
 have HPRE:Hid (∀W,Below w.heap.size w W->∀k,k<l.length->zal W (.slice (some ⟨b,off,none⟩) k cap) (l.take k)):=fun W hW k hk=>zkt hk (by
  rcases hbB with h | h
  ·exact Nat.lt_of_lt_of_le h hW.size
  ·subst h;simp at hk) (hops.below hW hbB)
 have HOP:Hid (∀o∈l,isOpB o=true):=hop;obtain⟨i0,hi,hz0,hs0,hy0⟩:=info_parts zmZ;have HI:Hid (Tryz.prog.info? 126=some i0/\i0.zero=some (.agg #[.int .i64 0,.int .i64 0])/\i0.size=2/\i0.bytes=16):=⟨hi,hz0,hs0,hy0⟩;clear had hbB hops hop hi hz0 hs0 hy0;go_enter Tryz.func63,Tryz.ntmps63;go_wp2
 go_loopw [5,10] (fun v5 v10 wr=>∃k:Nat,k<=l.length/\v10=.int .i64 k/\Below w.heap.size w wr/\zad wr w.heap.size f/\wr.ownsRow (w.heap.size+1) 126 2 v5 (sTo f l k).length (flatE (sTo f l k))) (fun _ v10 _=>l.length-(intOf v10).toNat)
 case atStart=>exact⟨0,Nat.zero_le _,rfl,(Below.refl _ w).alloc (Nat.le_refl _) _,zbO w f,World.ownsRow_nil _ _ _ _⟩
 case round =>
  obtain⟨k,hk,rfl,hbel,hends,hown⟩:=hrel;have HBW:Hid (Below w.heap.size w wr):=hbel;have HE:Hid (zad wr w.heap.size f):=hends;have hB1:=hends.lt;obtain⟨n1,hn1⟩:∃n1,(sTo f l k).length=n1:=⟨_,rfl⟩;have hn1b:n1<=40:=by rw[<-hn1];have:=zmD f l k;omega
  have HN1:Hid ((sTo f l k).length=n1):=hn1;rw[hn1]at hown;have HOWN:Hid (wr.ownsRow (w.heap.size+1) 126 2 u5 n1 (flatE (sTo f l k))):=hown;clear hends hown hn1;by_cases hlt:k<l.length
  ·have hlt':(k:Int)<(l.length:Int):=by omega
   obtain⟨hadr,c0,c1,c2⟩:=HO.out wr hbel k hlt;subst hadr;obtain⟨⟨t,a,x⟩,ho⟩:∃o:Op3,opAt l k=o:=⟨_,rfl⟩;rw[ho]at c0 c1 c2;have HOA:Hid (opAt l k=(t,a,x)):=ho;simp only at c0 c1 c2;clear ho hbel
   go_upto_region 5 with(fail)
   obtain⟨W,hW⟩:∃W,W=wr.alloc (.cells #[.int .i64 t,.int .i64 a,.int .i64 x] 103):=⟨_,rfl⟩;rw[<-hW];obtain⟨P,hP⟩:∃P,P=wr.heap.size:=⟨_,rfl⟩;rw[<-hP];have p1:W.cell? ⟨P,1,none⟩=some (.int .i64 a):=by rw[hW,hP];simp
   have p2:W.cell? ⟨P,2,none⟩=some (.int .i64 x):=by rw[hW,hP];simp
   have hbw:Below wr.heap.size wr W:=by rw[hW];exact(Below.refl _ wr).alloc (Nat.le_refl _) _
   have HEW:Hid (zad W w.heap.size f):=HE.out.below hbw hB1;have HBW2:Hid (Below w.heap.size w W):=HBW.out.trans (hbw.mono HBW.out.size);have HOW:Hid (W.ownsRow (w.heap.size+1) 126 2 u5 n1 (flatE (sTo f l k))):=by show W.ownsRow _ _ _ _ _ _;rw[hW];exact HOWN.out.alloc _
   have hWs:w.heap.size<W.heap.size:=HEW.out.lt;clear hW hP hbw HE HBW HOWN c0 c1 c2;by_cases ha:a=1
   ·subst ha;have HRD:Hid (sTo f l (k+1)=sTo f l k++[((k:Int),wTo f x k (l.take k) k)]):=by show sTo f l (k+1)=_;rw[sTo,HOA.out,if_pos rfl]
    have HC:Hid (∀W',Below W.heap.size W W'->Calls Tryz.prog 130 #[.slice (some ⟨b,off,none⟩) k cap,.int .i64 x,.agg (cells14 f)] W' fun e w'=>e=.returned (.int .i64 (wTo f x k (l.take k) k))/\Below W.heap.size W w'):=fun W' hW'=>by
     have hlk:(l.take k).length=k:=by rw[List.length_take];omega
     have h1:=ziS f x (l.take k) _ W' (HPRE.out W' (HBW2.out.trans (hW'.mono HBW2.out.size)) k hlt) (by omega) (fun o ho=>HOP.out o (List.mem_of_mem_take ho));rw[hlk]at h1;exact h1.mono fun e w' ⟨h2,h3⟩=>⟨h2,hW'.trans (h3.mono hW'.size)⟩
    obtain⟨r,hr⟩:∃r,wTo f x k (l.take k) k=r:=⟨_,rfl⟩;rw[hr]at HRD HC;clear hr;have hkc:(k:Int)<=(cap:Int):=by omega
    have hent:∀args W,(callFunc 130 args).run Tryz.prog W=.ok (.enter 130 args) W:=fun _ _=>by kernel_rfl
    have HENT:Hid (∀args W,(callFunc 130 args).run Tryz.prog W=.ok (.enter 130 args) W):=hent;obtain⟨e0,e1,e2,e3,e4,e5,e6,e7,e8,e9,e10,e11,e12,e13⟩:=HEW.out.all;clear hent;go_wp2_with fail
    go_region_law (first | (refine zf8 rfl 130 _ _ rfl #[.slice (some ⟨b,off,none⟩) k cap,.int .i64 x,.agg (cells14 f)] (by rw[zd9];simp[Act.eval]) HENT.out (.int .i64 r) (fun w'=>Below W.heap.size W w') (HC.out W.drew (Below.refl _ W).drew) ?_;intro W1 hW1) | (refine zcq rfl (.tmp 18) (.tmp 28) 123 rfl (w.heap.size+1) 126 i0 (.agg #[.int .i64 0,.int .i64 0]) 2 16 Tryz.underlying123 HI.out.1 HI.out.2.1 HI.out.2.2.1 HI.out.2.2.2 rfl (by decide) u5 n1 (flatE (sTo f l k)) (by simp[Act.eval]) ((zat HOW.out hW1 (Nat.le_refl _)).alloc _) ⟨W1.heap.size,0,none⟩ 1 1 (flatE [((k:Int),r)]) (by simp[Act.eval]) rfl (zmV W1 k r) (zd6 _) (by unfold maxLen;omega) (by omega) (by have:=hW1.size;simp;omega) ?_;intro v4 w4 hown4 hgr4 hnil4))
    all_goals
     have hbW1:Below w.heap.size w W1:=HBW2.out.trans (hW1.mono HBW2.out.size);have HEW1:zad W1 w.heap.size f:=HEW.out.below hW1 hWs;have hlt1:=HEW1.lt;have HB4:Hid (Below w.heap.size w w4):=(hbW1.alloc hbW1.size _).grown hgr4 (by simp;omega) (fun q hq=>by have:=(HOW.out.lt q hq).1;omega);have HE4:Hid (zad w4 w.heap.size f):=(HEW1.alloc _).same (hgr4.block _ (by simp;omega) (fun he=>by have:=(HOW.out.lt _ he.symm).1;omega));have HO4:Hid (w4.ownsRow (w.heap.size+1) 126 2 v4 (n1+1) (flatE (sTo f l k)++flatE [((k:Int),r)])):=hown4;clear hbW1 HEW1 hlt1 hown4 hgr4 hnil4 hW1 e0 e1 e2 e3 e4 e5 e6 e7 e8 e9 e10 e11 e12 e13 p1 p2;go_wp2_with fail;go_roundw
     case rel=>exact⟨k+1,by omega,by go_num,HB4.out,HE4.out,by rw[HRD.out,zcl,List.length_append,HN1.out];exact HO4.out⟩
     case measure=>simp[intOf];omega
   ·have ha1':(a == 1)=false:=by simpa using ha
    have HRD:Hid (sTo f l (k+1)=sTo f l k):=by show sTo f l (k+1)=sTo f l k;rw[sTo,HOA.out,if_neg ha]
    clear ha;go_wp2_with fail;go_roundw
    case rel=>exact⟨k+1,by omega,by go_num,HBW2.out,HEW.out,by rw[HRD.out,HN1.out];exact HOW.out⟩
    case measure=>simp[intOf];omega
  ·have hlt':¬(k:Int)<(l.length:Int):=by omega
   obtain rfl:k=l.length:=by omega
   clear hbel;go_wp2_with fail;go_ret;exact⟨_,rfl,by rw[HN1.out];exact HOWN.out,HBW.out⟩
end Go.Proofs.YthlhgiihngcobaaGreatDoor
namespace Go.Proofs.YthlhgiihngcobaaGreatDoor
open Go.RowKit
theorem zdQ{W:World}{v:Value}{l:List Op3}(h:zal W v l){i:Nat}(hi:i<l.length){t a x:Int}(ho:opAt l i=(t,a,x)):∃b off cap,v=.slice (some ⟨b,off,none⟩) l.length cap/\b<W.heap.size/\W.cell? ⟨b,off+i*3,none⟩=some (.int .i64 t)/\W.cell? ⟨b,off+i*3+1,none⟩=some (.int .i64 a):=by
 obtain⟨ad,b,off,cap,hv,had,-,hbB,hops⟩:=h;have:=hops i hi;rw[show l.getD i (0,0,0)=(t,a,x)from ho]at this;rw[had (by omega)]at hv
 have hb:b<W.heap.size:=by
  rcases hbB with h | h
  ·exact h
  ·subst h;simp at hi
 exact⟨b,off,cap,hv,hb,this.1,this.2.1⟩
theorem zaR(w:World)(t a:Int)(T:TypeId):(w.alloc (.cells #[.int .i64 t,.int .i64 a] T)).cell? ⟨w.heap.size,0,none⟩=some (.int .i64 t)/\(w.alloc (.cells #[.int .i64 t,.int .i64 a] T)).cell? ⟨w.heap.size,1,none⟩=some (.int .i64 a):=by simp
theorem znU(l:List Op3)(i:Nat)(x:Int)(v:Value)(B1:Nat)(w:World)(hI:zal w v l)(hi:i<l.length)(hc:w.cell? ⟨B1,0,none⟩=some v):Calls Tryz.prog 64 #[.agg #[.int .i64 i,.int .i64 x],.pointer (some ⟨B1,0,none⟩)] w fun e w'=>e=.returned (.bool (zlj l ((i:Int),x)))/\Below w.heap.size w w':=by
 obtain⟨⟨t,a,y⟩,ho⟩:∃o:Op3,opAt l i=o:=⟨_,rfl⟩;obtain⟨b,off,cap,rfl,hb,c0,-⟩:=zdQ hI hi ho;have HE:Hid (zlj l ((i:Int),x)=(x == 0 || x == t)):=by show zlj l ((i:Int),x)=_;unfold zlj;simp only[Int.toNat_natCast,ho]
 have bB:=World.block_lt_of_cell? w _ hc;simp only at bB;clear hI ho;go_enter Tryz.func64,Tryz.ntmps64
 go_upto_region 1 with(fail)
 obtain⟨W,hW⟩:∃W,W=w.alloc (.cells #[.int .i64 i,.int .i64 x] 126):=⟨_,rfl⟩;rw[<-hW];obtain⟨P,hP⟩:∃P,P=w.heap.size:=⟨_,rfl⟩;have p0:W.cell? ⟨P,0,none⟩=some (.int .i64 i):=by rw[hW,hP];exact(zaR w _ _ _).1
 have p1:W.cell? ⟨P,1,none⟩=some (.int .i64 x):=by rw[hW,hP];exact(zaR w _ _ _).2
 have hbw:Below w.heap.size w W:=by rw[hW];exact(Below.refl _ w).alloc (Nat.le_refl _) _
 have k0:=(hbw.cell (p:=⟨B1,0,none⟩) bB).trans hc;have k1:=(hbw.cell (p:=⟨b,off+i*3,none⟩) hb).trans c0;have HB:Hid (∀n,Below w.heap.size w (W.drewN n)):=fun n=>below_drewN hbw n;have hi':(i:Int)<(l.length:Int):=by omega
 rw[<-hP];clear hW hbw hc c0 hb bB hP;by_cases hx:x=0
 ·subst hx;go_wp2_with fail;go_quiet (fail);go_wp2_with fail;go_ret;exact⟨by rw[HE.out];rfl,HB.out _⟩
 ·have hx':(x == 0)=false:=by simpa using hx
  clear hx;go_wp2_with fail;go_quiet (fail);go_wp2_with fail;go_ret;exact⟨by rw[HE.out,hx'];simp,HB.out _⟩
theorem zlW(l:List Op3)(f:Nat->Int × Int)(i:Nat)(x:Int)(v:Value)(B1 B2:Nat)(w:World)(hI:zal w v l)(hop:∀o∈l,isOpB o=true)(hi:i<l.length)(hx0:0<=x)(hx7:x<7)(hc:w.cell? ⟨B1,0,none⟩=some v)(hE:zad w B2 f):Calls Tryz.prog 65 #[.agg #[.int .i64 i,.int .i64 x],.pointer (some ⟨B2,0,none⟩),.pointer (some ⟨B1,0,none⟩)] w fun e w'=>e=.returned (.bool (zcF l f ((i:Int),x)))/\Below w.heap.size w w':=by
 obtain⟨⟨t,a,y⟩,ho⟩:∃o:Op3,opAt l i=o:=⟨_,rfl⟩;obtain⟨b,off,cap,rfl,hb,c0,-⟩:=zdQ hI hi ho;have ht:=zaG (hop _ (zaj hi));rw[ho]at ht;obtain⟨ht1,ht6⟩:=ht;simp only at ht1 ht6;obtain⟨⟨q,p⟩,hf⟩:∃n,f t.toNat=n:=⟨_,rfl⟩;have HE:Hid (zcF l f ((i:Int),x)=(q == 3 && !byE f x p 3)):=by show zcF l f ((i:Int),x)=_;unfold zcF;simp only[Int.toNat_natCast,ho,hf]
 have HF:Hid (f t.toNat=(q,p)):=hf;have bB:=World.block_lt_of_cell? w _ hc;simp only at bB;have HEN:Hid (zad w B2 f):=hE;have ht0:0<=t:=by omega
 have ht7:t<7:=by omega
 clear hI ho hf hop hE ht1 ht6;go_enter Tryz.func65,Tryz.ntmps65
 go_upto_region 1 with(fail)
 obtain⟨W,hW⟩:∃W,W=w.alloc (.cells #[.int .i64 i,.int .i64 x] 126):=⟨_,rfl⟩;rw[<-hW];obtain⟨P,hP⟩:∃P,P=w.heap.size:=⟨_,rfl⟩;have p0:W.cell? ⟨P,0,none⟩=some (.int .i64 i):=by rw[hW,hP];exact(zaR w _ _ _).1
 have p1:W.cell? ⟨P,1,none⟩=some (.int .i64 x):=by rw[hW,hP];exact(zaR w _ _ _).2
 have hbw:Below w.heap.size w W:=by rw[hW];exact(Below.refl _ w).alloc (Nat.le_refl _) _
 have k0:=(hbw.cell (p:=⟨B1,0,none⟩) bB).trans hc;have k1:=(hbw.cell (p:=⟨b,off+i*3,none⟩) hb).trans c0;have HEW:Hid (zad W B2 f):=HEN.out.below hbw HEN.out.lt;obtain⟨d0,d1⟩:=HEW.out.cells (x:=t.toNat) (by omega) HF.out;have hPW:P<W.heap.size:=World.block_lt_of_cell? W _ p0;have HB:Hid (Below w.heap.size w W):=hbw;have hi':(i:Int)<(l.length:Int):=by omega
 rw[<-hP];clear hW hbw hc c0 hb bB hP
 go_upto_region 2 with(fail)
 obtain⟨V,hV⟩:∃V,V=W.alloc (.cells #[.int .i64 q,.int .i64 p] 119):=⟨_,rfl⟩;rw[<-hV];obtain⟨R,hR⟩:∃R,R=W.heap.size:=⟨_,rfl⟩;have q0:V.cell? ⟨R,0,none⟩=some (.int .i64 q):=by rw[hV,hR];exact(zaR W _ _ _).1
 have q1:V.cell? ⟨R,1,none⟩=some (.int .i64 p):=by rw[hV,hR];exact(zaR W _ _ _).2
 have hbv:Below W.heap.size W V:=by rw[hV];exact(Below.refl _ W).alloc (Nat.le_refl _) _
 have q2:=(hbv.cell (p:=⟨P,1,none⟩) hPW).trans p1;have HEV:Hid (zad V B2 f):=HEW.out.below hbv HEW.out.lt;have HBV:Hid (Below w.heap.size w V):=HB.out.trans (hbv.mono HB.out.size);rw[<-hR];clear hV hbv hR p0 p1 k0 k1 d0 d1 hPW HEW HB;by_cases hq:q=3
 ·subst hq;go_wp2_with (refine wpList_load_row1 rfl 121 (.tmp 1) rfl B2 rfl 121 (cells14 f) (0,0) _ HEV.out Tryz.underlying121 rfl (zaC _) ?_);refine(zbQ f x p _ hx0 hx7).mono ?_;rintro e w1 ⟨rfl,hb1⟩;have HB1:Hid (Below w.heap.size w w1):=HBV.out.trans (hb1.mono HBV.out.size);clear hb1;go_wp2_with fail;go_ret;exact⟨by rw[HE.out];rfl,HB1.out⟩
 ·have hq':(q == 3)=false:=by simpa using hq
  clear hq;go_wp2_with fail;go_ret;exact⟨by rw[HE.out,hq'];rfl,HBV.out⟩
theorem zkW(f:Nat->Int × Int)(i:Nat)(x:Int)(B2:Nat)(w:World)(hx0:0<=x)(hx7:x<7)(hE:zad w B2 f):Calls Tryz.prog 67 #[.agg #[.int .i64 i,.int .i64 x],.pointer (some ⟨B2,0,none⟩)] w fun e w'=>e=.returned (.bool (zeb f ((i:Int),x)))/\Below w.heap.size w w':=by
 have HEN:Hid (zad w B2 f):=hE;clear hE;go_enter Tryz.func67,Tryz.ntmps67
 go_upto_region 1 with(fail)
 obtain⟨W,hW⟩:∃W,W=w.alloc (.cells #[.int .i64 i,.int .i64 x] 126):=⟨_,rfl⟩;rw[<-hW];obtain⟨P,hP⟩:∃P,P=w.heap.size:=⟨_,rfl⟩;have p0:W.cell? ⟨P,0,none⟩=some (.int .i64 i):=by rw[hW,hP];exact(zaR w _ _ _).1
 have p1:W.cell? ⟨P,1,none⟩=some (.int .i64 x):=by rw[hW,hP];exact(zaR w _ _ _).2
 have hbw:Below w.heap.size w W:=by rw[hW];exact(Below.refl _ w).alloc (Nat.le_refl _) _
 have HEW:Hid (zad W B2 f):=HEN.out.below hbw HEN.out.lt;have HB:Hid (Below w.heap.size w W):=hbw;rw[<-hP];clear hW hbw hP;go_wp2_with (refine wpList_load_row rfl 121 (.tmp 1) rfl B2 rfl 121 (cells14 f) (0,0) _ HEW.out Tryz.underlying121 rfl (zaC _) ?_);refine(zbQ f x i _ hx0 hx7).mono ?_;rintro e w1 ⟨rfl,hb1⟩;have HB1:Hid (Below w.heap.size w w1):=HB.out.trans (hb1.mono HB.out.size);clear hb1;go_wp2_with fail;go_ret;exact⟨rfl,HB1.out⟩
theorem zka(l:List Op3)(f:Nat->Int × Int)(i j:Nat)(v:Value)(B1 B2:Nat)(w:World)(hI:zal w v l)(hop:∀o∈l,isOpB o=true)(hi:i<l.length)(hc:w.cell? ⟨B1,0,none⟩=some v)(hE:zad w B2 f):Calls Tryz.prog 68 #[.agg #[.int .i64 i,.int .i64 j],.pointer (some ⟨B2,0,none⟩),.pointer (some ⟨B1,0,none⟩)] w fun e w'=>e=.returned (.bool (zdh l f ((i:Int),(j:Int))))/\Below w.heap.size w w':=by
 obtain⟨⟨t,a,y⟩,ho⟩:∃o:Op3,opAt l i=o:=⟨_,rfl⟩;obtain⟨b,off,cap,rfl,hb,c0,-⟩:=zdQ hI hi ho;have ht:=zaG (hop _ (zaj hi));rw[ho]at ht;obtain⟨ht1,ht6⟩:=ht;simp only at ht1 ht6;obtain⟨r,hr⟩:∃r,(byE f t j 3 || byE f t j 4)=r:=⟨_,rfl⟩;have HE:Hid (zdh l f ((i:Int),(j:Int))=!r):=by show zdh l f ((i:Int),(j:Int))=_;unfold zdh;simp only[Int.toNat_natCast,ho];rw[hr]
 have bB:=World.block_lt_of_cell? w _ hc;simp only at bB;have HEN:Hid (zad w B2 f):=hE;have HCA:Hid (∀W,Calls Tryz.prog 69 #[.agg #[.int .i64 (f 0).1,.int .i64 (f 0).2,.int .i64 (f 1).1,.int .i64 (f 1).2,.int .i64 (f 2).1,.int .i64 (f 2).2,.int .i64 (f 3).1,.int .i64 (f 3).2,.int .i64 (f 4).1,.int .i64 (f 4).2,.int .i64 (f 5).1,.int .i64 (f 5).2,.int .i64 (f 6).1,.int .i64 (f 6).2],.int .i64 t,.int .i64 j] W fun e w'=>e=.returned (.bool r)/\Below W.heap.size W w'):=fun W=>by have h1:=zkF f t j W (by omega) (by omega);rw[hr,zd9]at h1;exact h1
 clear hI ho hop hE ht1 ht6 hr;go_enter Tryz.func68,Tryz.ntmps68
 go_upto_region 1 with(fail)
 obtain⟨W,hW⟩:∃W,W=w.alloc (.cells #[.int .i64 i,.int .i64 j] 131):=⟨_,rfl⟩;rw[<-hW];obtain⟨P,hP⟩:∃P,P=w.heap.size:=⟨_,rfl⟩;have p0:W.cell? ⟨P,0,none⟩=some (.int .i64 i):=by rw[hW,hP];exact(zaR w _ _ _).1
 have p1:W.cell? ⟨P,1,none⟩=some (.int .i64 j):=by rw[hW,hP];exact(zaR w _ _ _).2
 have hbw:Below w.heap.size w W:=by rw[hW];exact(Below.refl _ w).alloc (Nat.le_refl _) _
 have k0:=(hbw.cell (p:=⟨B1,0,none⟩) bB).trans hc;have k1:=(hbw.cell (p:=⟨b,off+i*3,none⟩) hb).trans c0;have HEW:Hid (zad W B2 f):=HEN.out.below hbw HEN.out.lt;have hPW:P<W.heap.size:=World.block_lt_of_cell? W _ p0;have hB1W:B1<W.heap.size:=World.block_lt_of_cell? W _ k0;have hbW:b<W.heap.size:=World.block_lt_of_cell? W _ k1;have HB:Hid (Below w.heap.size w W):=hbw;have hi':(i:Int)<(l.length:Int):=by omega
 rw[<-hP];clear hW hbw hc c0 hb bB hP;obtain⟨B,hA1,hA2⟩:∃B,B<=W.heap.size/\W.heap.size<=B:=⟨_,Nat.le_refl _,Nat.le_refl _⟩;have hne:Nonempty (za2 B W):=⟨⟨W,Below.refl _ _⟩⟩;have g0:∀y:za2 B W,y.W.cell? ⟨P,0,none⟩=some (.int .i64 i):=fun y=>(y.h.cell (p:=⟨P,0,none⟩) (by show P<B;omega)).trans p0;have g1:∀y:za2 B W,y.W.cell? ⟨P,1,none⟩=some (.int .i64 j):=fun y=>(y.h.cell (p:=⟨P,1,none⟩) (by show P<B;omega)).trans p1;have g2:∀y:za2 B W,y.W.cell? ⟨B1,0,none⟩=some (.slice (some ⟨b,off,none⟩) l.length cap):=fun y=>(y.h.cell (p:=⟨B1,0,none⟩) (by show B1<B;omega)).trans k0;have g3:∀y:za2 B W,y.W.cell? ⟨b,off+i*3,none⟩=some (.int .i64 t):=fun y=>(y.h.cell (p:=⟨b,off+i*3,none⟩) (by show b<B;omega)).trans k1;have E0:∀y:za2 B W,y.W.cell? ⟨B2,0,none⟩=some (.int .i64 (f 0).1):=fun y=>by rw[cell_of_row y.W B2 _ _ _ _ (HEW.out.below y.h (by have:=HEW.out.lt;omega))];rfl
 have E1:∀y:za2 B W,y.W.cell? ⟨B2,1,none⟩=some (.int .i64 (f 0).2):=fun y=>by rw[cell_of_row y.W B2 _ _ _ _ (HEW.out.below y.h (by have:=HEW.out.lt;omega))];rfl
 have E2:∀y:za2 B W,y.W.cell? ⟨B2,2,none⟩=some (.int .i64 (f 1).1):=fun y=>by rw[cell_of_row y.W B2 _ _ _ _ (HEW.out.below y.h (by have:=HEW.out.lt;omega))];rfl
 have E3:∀y:za2 B W,y.W.cell? ⟨B2,3,none⟩=some (.int .i64 (f 1).2):=fun y=>by rw[cell_of_row y.W B2 _ _ _ _ (HEW.out.below y.h (by have:=HEW.out.lt;omega))];rfl
 have E4:∀y:za2 B W,y.W.cell? ⟨B2,4,none⟩=some (.int .i64 (f 2).1):=fun y=>by rw[cell_of_row y.W B2 _ _ _ _ (HEW.out.below y.h (by have:=HEW.out.lt;omega))];rfl
 have E5:∀y:za2 B W,y.W.cell? ⟨B2,5,none⟩=some (.int .i64 (f 2).2):=fun y=>by rw[cell_of_row y.W B2 _ _ _ _ (HEW.out.below y.h (by have:=HEW.out.lt;omega))];rfl
 have E6:∀y:za2 B W,y.W.cell? ⟨B2,6,none⟩=some (.int .i64 (f 3).1):=fun y=>by rw[cell_of_row y.W B2 _ _ _ _ (HEW.out.below y.h (by have:=HEW.out.lt;omega))];rfl
 have E7:∀y:za2 B W,y.W.cell? ⟨B2,7,none⟩=some (.int .i64 (f 3).2):=fun y=>by rw[cell_of_row y.W B2 _ _ _ _ (HEW.out.below y.h (by have:=HEW.out.lt;omega))];rfl
 have E8:∀y:za2 B W,y.W.cell? ⟨B2,8,none⟩=some (.int .i64 (f 4).1):=fun y=>by rw[cell_of_row y.W B2 _ _ _ _ (HEW.out.below y.h (by have:=HEW.out.lt;omega))];rfl
 have E9:∀y:za2 B W,y.W.cell? ⟨B2,9,none⟩=some (.int .i64 (f 4).2):=fun y=>by rw[cell_of_row y.W B2 _ _ _ _ (HEW.out.below y.h (by have:=HEW.out.lt;omega))];rfl
 have E10:∀y:za2 B W,y.W.cell? ⟨B2,10,none⟩=some (.int .i64 (f 5).1):=fun y=>by rw[cell_of_row y.W B2 _ _ _ _ (HEW.out.below y.h (by have:=HEW.out.lt;omega))];rfl
 have E11:∀y:za2 B W,y.W.cell? ⟨B2,11,none⟩=some (.int .i64 (f 5).2):=fun y=>by rw[cell_of_row y.W B2 _ _ _ _ (HEW.out.below y.h (by have:=HEW.out.lt;omega))];rfl
 have E12:∀y:za2 B W,y.W.cell? ⟨B2,12,none⟩=some (.int .i64 (f 6).1):=fun y=>by rw[cell_of_row y.W B2 _ _ _ _ (HEW.out.below y.h (by have:=HEW.out.lt;omega))];rfl
 have E13:∀y:za2 B W,y.W.cell? ⟨B2,13,none⟩=some (.int .i64 (f 6).2):=fun y=>by rw[cell_of_row y.W B2 _ _ _ _ (HEW.out.below y.h (by have:=HEW.out.lt;omega))];rfl
 have HCQ:Hid (∀y:za2 B W,Calls Tryz.prog 69 #[.agg #[.int .i64 (f 0).1,.int .i64 (f 0).2,.int .i64 (f 1).1,.int .i64 (f 1).2,.int .i64 (f 2).1,.int .i64 (f 2).2,.int .i64 (f 3).1,.int .i64 (f 3).2,.int .i64 (f 4).1,.int .i64 (f 4).2,.int .i64 (f 5).1,.int .i64 (f 5).2,.int .i64 (f 6).1,.int .i64 (f 6).2],.int .i64 t,.int .i64 j] y.W fun e w'=>e=.returned (.bool r)/\∃z:za2 B W,w'=z.W):=fun y=>za2.at y hA1 (HCA.out y.W);clear p0 p1 k0 k1 hPW hB1W hbW;go_wp2_with fail;refine zgu B (by kernel_rfl) (by kernel_rfl) ?_;repeat (first | go_big_quiet_skip | (go_big_quiet_want;go_big_quiet_op;first | go_big_quiet_on | (refine⟨_,fun y=>HCQ.out y,?_⟩;go_big_quiet_on)))
 refine wpQuiet_nil ?_;intro V hV;obtain⟨y,rfl⟩:=hV;have HBY:Hid (Below w.heap.size w y.W):=HB.out.trans (y.h.mono (by have:=HB.out.size;omega));go_wp2_with fail;go_ret;exact⟨by rw[HE.out];rfl,HBY.out⟩
end Go.Proofs.YthlhgiihngcobaaGreatDoor
