/-
  PROVED HERE: odds.names gives each op of a right list with which of its deal's ops it is, in new memory; a name (an op, and which of its deal's ops it is) as a map's key.
  Conditions: none but those that each theorem's own premises say.
-/
import Derived.Test.YthlhgiihngcobaaGreatDoorMgai
import Derived.Test.YthlhgiihngcobaaGreatDoorMgal
import Derived.Test.YthlhgiihngcobaaGreatDoorMgap
import Derived.Test.YthlhgiihngcobaaGreatDoorMgaj
import Derived.Maps.OwnSet
import Derived.Maps.OwnOps
import Derived.Maps.AppendAt
import Derived.DeepKeys4
set_option maxHeartbeats 32000000
set_option maxRecDepth 100000
namespace Go.Proofs.YthlhgiihngcobaaGreatDoor
open Go.RowKit
abbrev Nm:=Op3 × Nat
def flatN:List Nm->List Value
 | []=>[]
 | o::r=>.int .i64 o.1.1 :: .int .i64 o.1.2.1 :: .int .i64 o.1.2.2 :: .int .i64 o.2::flatN r
theorem zf1(l m:List Nm):flatN (l++m)=flatN l++flatN m:=by
 induction l with
 | nil=>rfl
 | cons o r ih=>simp[flatN,ih]
theorem zke(l:List Nm):∀u∈flatN l,u.oneCell'=true:=by
 induction l with
 | nil=>intro u hu;cases hu
 | cons o r ih =>
   intro u hu;simp only[flatN,List.mem_cons]at hu;rcases hu with rfl | rfl | rfl | rfl | hu
   ·rfl
   ·rfl
   ·rfl
   ·rfl
   ·exact ih u hu
def zhg(l:List Nm)(i:Nat):Nm:=l.getD i ((0,0,0),0)
theorem zl1(l:List Nm):∀i,i<l.length->(flatN l)[i*4]? = some (.int .i64 (zhg l i).1.1)/\(flatN l)[i*4+1]? = some (.int .i64 (zhg l i).1.2.1)/\(flatN l)[i*4+2]? = some (.int .i64 (zhg l i).1.2.2)/\(flatN l)[i*4+3]? = some (.int .i64 (zhg l i).2):=by
 induction l with
 | nil=>intro i hi;cases hi
 | cons o r ih =>
   intro i hi;cases i with
   | zero=>exact⟨rfl,rfl,rfl,rfl⟩
   | succ i =>have:=ih i (by simpa using hi);rw[show(i+1)*4=i*4+4 by omega];simpa[flatN,zhg]using this
def zfx(w:World)(b off:Nat)(l:List Nm):Prop :=∀i,i<l.length->w.cell? ⟨b,off+i*4,none⟩=some (.int .i64 (zhg l i).1.1)/\w.cell? ⟨b,off+i*4+1,none⟩=some (.int .i64 (zhg l i).1.2.1)/\w.cell? ⟨b,off+i*4+2,none⟩=some (.int .i64 (zhg l i).1.2.2)/\w.cell? ⟨b,off+i*4+3,none⟩=some (.int .i64 (zhg l i).2)
theorem zfx.below{w w1:World}{b off B:Nat}{l:List Nm}(h:zfx w b off l)(hb:Below B w w1)(hB:b<B\/l=[]):zfx w1 b off l:=by
 intro i hi
 have hB':b<B:=by
  rcases hB with h | h
  ·exact h
  ·subst h;cases hi
 rw[hb.cell (p:=⟨b,off+i*4,none⟩) hB',hb.cell (p:=⟨b,off+i*4+1,none⟩) hB',hb.cell (p:=⟨b,off+i*4+2,none⟩) hB',hb.cell (p:=⟨b,off+i*4+3,none⟩) hB'];exact h i hi
def zaH(w:World)(v:Value)(l:List Nm):Prop :=∃(ad:Option Addr) (b off cap:Nat),v=.slice ad l.length cap/\(0<l.length->ad=some ⟨b,off,none⟩)/\(b<w.heap.size\/l=[])/\zfx w b off l
theorem zgW{w:World}{base e n:Nat}{v:Value}{l:List Nm}(h:w.ownsRow base e 4 v n (flatN l))(hl:l.length=n):zaH w v l:=by
 have h':=h;obtain⟨_,⟨hv,hd⟩ | ⟨g,cap,cur,hv,hb,hg,hn,hm,hsz,htk⟩⟩:=h'
 ·have:l=[]:=List.length_eq_zero_iff.1 (by omega);subst this;rw[hv];exact⟨none,0,0,0,rfl,fun h=>absurd h (by simp),.inr rfl,fun i hi=>by simp at hi⟩
 ·have hc:∀j u,(flatN l)[j]? = some u->w.cell? ⟨g,0+j,none⟩=some u:=fun j u hj=>by
   have:=h.cells (g:=g) (by rw[hv];rfl) j u hj;rw[Addr.add_lit]at this;exact this
  refine⟨some ⟨g,0,none⟩,g,0,cap,by rw[hl];exact hv,fun _=>rfl,.inl (h.lt g (by rw[hv];rfl)).2,fun i hi=>?_⟩;obtain⟨h0,h1,h2,h3⟩:=zl1 l i hi;exact⟨hc _ _ h0,by rw[Nat.add_assoc];exact hc _ _ h1,by rw[Nat.add_assoc];exact hc _ _ h2,by rw[Nat.add_assoc];exact hc _ _ h3⟩
theorem zl8:(Tryz.prog.info? 105).map (fun i=>(i.zero,i.size,i.bytes))=some (some (.agg #[.int .i64 0,.int .i64 0,.int .i64 0,.int .i64 0]),4,32):=by kernel_rfl
def zar(l:List Op3)(k:Nat):List Nm:=(List.range k).map (zah l)
theorem zbn(l:List Op3)(k:Nat):(zar l k).length=k:=by simp[zar]
theorem zfW(l:List Op3)(k:Nat):zar l (k+1)=zar l k++[zah l k]:=by unfold zar;rw[List.range_succ,List.map_append];rfl
theorem ziK(l:List Op3)(n k:Nat)(h:k<n):zhg (zar l n) k=zah l k:=by simp[zhg,zar,List.getD,h]
def zcN(w:World)(B:Nat)(l:List Op3):Prop:=∀j,j<7->w.cell? ⟨B,j,none⟩=some (.int .i64 (ofL l (j:Nat)).length)/\w.frozen? ⟨B,j,none⟩=false
theorem zcN.lt{w:World}{B:Nat}{l:List Op3}(h:zcN w B l):B<w.heap.size:=World.block_lt_of_cell? w _ (h 0 (by omega)).1
theorem zkf(l:List Op3)(w:World):zcN (w.alloc (.cells #[.int .i64 0,.int .i64 0,.int .i64 0,.int .i64 0,.int .i64 0,.int .i64 0,.int .i64 0] 136)) w.heap.size (List.take 0 l):=by
 intro j hj
 match j,hj with
 | 0,_=>exact⟨by simp[ofL],by simp⟩
 | 1,_=>exact⟨by simp[ofL],by simp⟩
 | 2,_=>exact⟨by simp[ofL],by simp⟩
 | 3,_=>exact⟨by simp[ofL],by simp⟩
 | 4,_=>exact⟨by simp[ofL],by simp⟩
 | 5,_=>exact⟨by simp[ofL],by simp⟩
 | 6,_=>exact⟨by simp[ofL],by simp⟩
theorem zcN.same{w w':World}{B:Nat}{l:List Op3}(h:zcN w B l)(hb:w'.heap[B]? = w.heap[B]?):zcN w' B l:=fun j hj =>⟨(World.cell?_of_block (a:=⟨B,j,none⟩) hb).trans (h j hj).1,(World.frozen?_of_block (a:=⟨B,j,none⟩) hb).trans (h j hj).2⟩
theorem zcN.step{w:World}{B:Nat}{l:List Op3}{o:Op3}(h:zcN w B l)(h1:1<=o.1)(h6:o.1<=6):zcN (w.setCell ⟨B,o.1.toNat,none⟩ (.int .i64 ((ofL l o.1).length+1))) B (l++[o]):=by
 intro j hj;obtain⟨hc,hf⟩:=h j hj;obtain⟨hct,_⟩:=h o.1.toNat (by omega);constructor
 ·by_cases hjt:j=o.1.toNat
  ·subst hjt;rw[World.cell?_setCell_same _ _ _ hct,show((o.1.toNat:Nat):Int)=o.1 by omega,zds,zcu,if_pos rfl];simp[ofL]
  ·rw[World.cell?_setCell_other _ _ _ _ (by intro he;injection he with _ he2 _;exact hjt he2.symm),hc,zds,zcu,if_neg (by omega)];simp[ofL]
 ·simpa using hf
theorem zic{w:World}{base e s n:Nat}{v:Value}{xs:List Value}(h:w.ownsRow base e s v n xs){B j:Nat}(hB:B<base)(u:Value):(w.setCell ⟨B,j,none⟩ u).ownsRow base e s v n xs :=h.kept (row:=some B) ⟨rfl,rfl,rfl,by simp,fun k _ hk=>heap_setCell_other w ⟨B,j,none⟩ k u (fun e=>hk (by simp[e]))⟩ (.inr fun he=>by have:=(h.lt B he).1;omega)
theorem zlI(w:World)(t a x:Int)(m:Nat):∀j u,(flatN [((t,a,x),m)])[j]? = some u->(w.alloc (.cells #[.int .i64 t,.int .i64 a,.int .i64 x,.int .i64 m] 105)).cell? ((⟨w.heap.size,0,none⟩:Addr).add j)=some u:=by
 intro j u hj
 match j,hj with
 | 0,hj=>simp[flatN]at hj;subst hj;simp[Addr.add]
 | 1,hj=>simp[flatN]at hj;subst hj;simp[Addr.add]
 | 2,hj=>simp[flatN]at hj;subst hj;simp[Addr.add]
 | 3,hj=>simp[flatN]at hj;subst hj;simp[Addr.add]
 | k+4,hj=>simp[flatN]at hj
theorem onames_any(l:List Op3)(v:Value)(w:World)(hI:zal w v l)(hl:l.length<=40)(hin:∀o∈l,1<=o.1/\o.1<=6):Calls Tryz.prog 122 #[v] w fun e w'=>∃v',e=.returned v'/\zaH w' v' (zar l l.length)/\Below w.heap.size w w':=by
 obtain⟨ad,b,off,cap,rfl,ha,_,hbB,hops⟩:=hI;have HO:Hid (∀W,Below w.heap.size w W->∀k,k<l.length->ad=some ⟨b,off,none⟩/\W.cell? ⟨b,off+k*3,none⟩=some (.int .i64 (opAt l k).1)/\W.cell? ⟨b,off+k*3+1,none⟩=some (.int .i64 (opAt l k).2.1)/\W.cell? ⟨b,off+k*3+2,none⟩=some (.int .i64 (opAt l k).2.2)):=fun W hW k hk=>⟨ha (by omega),(hops.below hW hbB) k hk⟩;clear ha hbB hops;obtain⟨i0,hi,hz0,hs0,hy0⟩:=info_parts zl8;have HI:Hid (Tryz.prog.info? 105=some i0/\i0.zero=some (.agg #[.int .i64 0,.int .i64 0,.int .i64 0,.int .i64 0])/\i0.size=4/\i0.bytes=32):=⟨hi,hz0,hs0,hy0⟩;clear hi hz0 hs0 hy0;go_enter Tryz.func122,Tryz.ntmps122;go_wp2
 go_loopw [4,9] (fun v4 v9 wr=>∃k:Nat,k<=l.length/\v9=.int .i64 k/\wr.ownsRow (w.heap.size+1) 105 4 v4 k (flatN (zar l k))/\zcN wr w.heap.size (l.take k)/\Below w.heap.size w wr) (fun _ v9 _=>l.length-(intOf v9).toNat)
 case atStart=>exact⟨0,Nat.zero_le _,rfl,World.ownsRow_nil _ _ _ _,zkf l w,(Below.refl _ w).alloc (Nat.le_refl _) _⟩
 case round =>
  obtain⟨k,hk,rfl,hown,hhad,hbel⟩:=hrel;have hsz:=hbel.size;by_cases hlt:k<l.length
  ·obtain⟨rfl,c0,c1,c2⟩:=HO.out wr hbel k hlt;obtain⟨⟨t,a,x⟩,ho⟩:∃o:Op3,opAt l k=o:=⟨_,rfl⟩;rw[ho]at c0 c1 c2;have ht:=hin (t,a,x) (by rw[<-ho];exact zaj hlt);obtain⟨ht1,ht6⟩:=ht;simp only at c0 c1 c2 ht1 ht6;obtain⟨g0,g1⟩:=hhad t.toNat (by omega);rw[show((t.toNat:Nat):Int)=t by omega]at g0;have HT:Hid (l.take (k+1)=l.take k++[(t,a,x)]):=by show l.take (k+1)=l.take k++[(t,a,x)];rw[List.take_succ_eq_append_getElem hlt,<-ho];simp[opAt,List.getD,List.getElem?_eq_getElem hlt]
   obtain⟨m,hm⟩:∃m,(ofL (l.take k) t).length=m:=⟨_,rfl⟩;rw[hm]at g0;have HNM:Hid (zah l k=((t,a,x),m)):=by show zah l k=((t,a,x),m);unfold zah zg7;rw[ho,hm]
   have HM:Hid ((ofL (l.take k) t).length=m):=hm;have hm40:m<=40:=by rw[<-hm];have h1:=List.length_filter_le (fun o:Op3=>o.1 == t) (l.take k);have h2:(l.take k).length<=k:=List.length_take_le _ _;unfold ofL;omega
   have HHAD:Hid (zcN wr w.heap.size (l.take k)):=hhad;have HOWN:Hid (wr.ownsRow (w.heap.size+1) 105 4 u4 k (flatN (zar l k))):=hown;have hhl:=hhad.lt;clear ho hm hhad hown HO;go_wp2_with fail;obtain⟨W,hW⟩:∃W,W=wr.alloc (.cells #[.int .i64 t,.int .i64 a,.int .i64 x] 103):=⟨_,rfl⟩;obtain⟨P,hP⟩:∃P,P=wr.heap.size:=⟨_,rfl⟩;have p0:W.cell? ⟨P,0,none⟩=some (.int .i64 t):=by rw[hW,hP];simp
   have p1:W.cell? ⟨P,1,none⟩=some (.int .i64 a):=by rw[hW,hP];simp
   have p2:W.cell? ⟨P,2,none⟩=some (.int .i64 x):=by rw[hW,hP];simp
   have q0:W.cell? ⟨w.heap.size,t.toNat,none⟩=some (.int .i64 m):=by rw[hW,World.cell?_alloc_lt _ _ ⟨w.heap.size,t.toNat,none⟩ hhl];exact g0
   have HOW:Hid (W.ownsRow (w.heap.size+1) 105 4 u4 k (flatN (zar l k))):=by show W.ownsRow (w.heap.size+1) 105 4 u4 k (flatN (zar l k));rw[hW];exact HOWN.out.alloc _
   have HHW:Hid (zcN W w.heap.size (l.take k)):=by show zcN W w.heap.size (l.take k);refine HHAD.out.same ?_;rw[hW];exact((Below.refl _ wr).alloc (Nat.le_refl _) _).block _ hhl
   have hbW:Below w.heap.size w W:=by rw[hW];exact hbel.alloc hsz _
   have hPW:P<W.heap.size:=World.block_lt_of_cell? W _ p0;have hPo:∀g,u4.ownBlock=some g->g<P:=fun g hg=>by rw[hP];exact(HOWN.out.lt g hg).2
   have hWs:w.heap.size<P:=by omega
   have HPO:Hid (∀g,u4.ownBlock=some g->g<P):=hPo;rw[<-hW,<-hP];clear hW hP hPo HOWN HHAD g0 g1 c0 c1 c2 hbel;have hb7:0<=t/\t<7:=by omega
   go_region_law (refine zcq rfl (.tmp 13) (.tmp 20) 98 rfl (w.heap.size+1) 105 i0 (.agg #[.int .i64 0,.int .i64 0,.int .i64 0,.int .i64 0]) 4 32 Tryz.underlying98 HI.out.1 HI.out.2.1 HI.out.2.2.1 HI.out.2.2.2 rfl (by decide) u4 k (flatN (zar l k)) (by simp[Act.eval]) (HOW.out.alloc _) ⟨W.heap.size,0,none⟩ 1 1 (flatN [((t,a,x),m)]) (by simp[Act.eval]) rfl (zlI W t a x m) (zke _) (by unfold maxLen;omega) (by omega) (by simp;omega) ?_;intro v1 w1 hown1 hgr1 hnil1)
   all_goals
    have e0:w1.cell? ⟨P,0,none⟩=some (.int .i64 t):=hgr1.cell (by rw[World.cell?_drew,World.cell?_alloc_lt _ _ ⟨P,0,none⟩ hPW];exact p0) (fun he=>by have:=HPO.out P he.symm;omega);have hblk:w1.heap[w.heap.size]? = W.heap[w.heap.size]? := (hgr1.block w.heap.size (by simp;omega) (fun he=>by have:=(HOW.out.lt _ he.symm).1;omega)).trans (((Below.refl _ W).alloc (Nat.le_refl _) _).block _ (by omega));have hh1:zcN w1 w.heap.size (l.take k):=HHW.out.same hblk;obtain⟨r0,r1⟩:=hh1 t.toNat (by omega);rw[show((t.toNat:Nat):Int)=t by omega,HM.out]at r0;have HH1:Hid (zcN w1 w.heap.size (l.take k)):=hh1;have HO1:Hid (w1.ownsRow (w.heap.size+1) 105 4 v1 (k+1) (flatN (zar l k)++flatN [((t,a,x),m)])):=hown1;have hB1:=(hbW.alloc hbW.size _).drew.grown hgr1 (by simp;omega) (fun g hg=>by have:=(HOW.out.lt g hg).1;omega);clear hh1 hown1 hblk p0 p1 p2 q0;go_wp2;go_roundw
    case rel=>exact⟨k+1,by omega,by go_num,by rw[zfW,HNM.out,zf1];exact zic HO1.out (by omega) _,by rw[HT.out];have:=HH1.out.step (o:=(t,a,x)) ht1 ht6;rw[HM.out]at this;exact this,hB1.setCell (by exact Nat.le_refl _) _⟩
    case measure=>simp[intOf];omega
  ·go_wp2;go_ret;have hkl:k=l.length:=by omega
   subst hkl;exact⟨_,rfl,zgW hown (zbn _ _),hbel⟩
end Go.Proofs.YthlhgiihngcobaaGreatDoor
namespace Go.Proofs.YthlhgiihngcobaaGreatDoor
open Go.RowKit Go.Maps
def nmV(n:Nm):Value:=.agg #[.int .i64 n.1.1,.int .i64 n.1.2.1,.int .i64 n.1.2.2,.int .i64 n.2]
def nmL(n:Nm):Lit:=.string (keyBytes [.int .i64 n.1.1,.int .i64 n.1.2.1,.int .i64 n.1.2.2,.int .i64 n.2])
theorem znM:Tryz.prog.types.size=369:=by kernel_rfl
theorem znV:laidOutB Tryz.prog=true:=by kernel_rfl
theorem zow:105<Tryz.prog.types.size:=of_decide_eq_true (by kernel_rfl)
theorem znJ:(match Tryz.prog.underlying 105 with | some (.array _ _) | some (.struct _)=>true | _=>false)=true:=by kernel_rfl
theorem znx:Keyed Tryz.prog 105:=Keyed.of_law (deep_law_laid znV (m:=3) (by omega) zow (by kernel_rfl) znJ)
theorem zoz:Tryz.prog.keyType 105=true:=by kernel_rfl
theorem zjq:Tryz.prog.cellsOf 105=4:=by kernel_rfl
theorem zlU:Tryz.prog.cellsOf 103=3:=by kernel_rfl
theorem zky:Tryz.prog.cellsOf 3=1:=by kernel_rfl
def Small(n:Nm):Prop:=(Lit.int .i64 n.1.1).wf=true/\(Lit.int .i64 n.1.2.1).wf=true/\(Lit.int .i64 n.1.2.2).wf=true/\(Lit.int .i64 n.2).wf=true
theorem zjo(d:Nat)(n:Nm)(h:Small n):Tryz.prog.keyLits (d+3) 105 (nmV n).cells.toList=some [.int .i64 n.1.1,.int .i64 n.1.2.1,.int .i64 n.1.2.2,.int .i64 n.2]:=by
 obtain⟨h0,h1,h2,h3⟩:=h;simp[Program.keyLits,nmV,Value.cells,h0,h1,h2,h3,zjq,zlU,zky,Tryz.underlying105,Tryz.underlying103,Tryz.underlying3];rw[if_pos]
 ·rfl
 ·intro i hi;rcases(show i=0\/i=1\/i=2 by omega)with rfl | rfl | rfl <;> simp
theorem zdC(n:Nm)(h:Small n):keyOf Tryz.prog 105 (nmV n)=some (nmL n):=by obtain⟨d,hd⟩:∃d,Tryz.prog.types.size+1=d+3:=⟨369-2,by rw[znM]⟩;have hl:=zjo d n h;unfold keyOf;rw[Tryz.underlying105,hd];simp only[hl,zoz,Value.formed,Tryz.underlying105];simp[nmV,zjq,nmL]
theorem zmn{a b:Nm}(ha:Small a)(hb:Small b)(h:nmL a=nmL b):a=b:=by
 have h1:=znx.inj (zdC a ha) (h ▸zdC b hb);obtain⟨⟨a1,a2,a3⟩,a4⟩:=a;obtain⟨⟨b1,b2,b3⟩,b4⟩:=b;simp[nmV]at h1;obtain⟨rfl,rfl,rfl,h4⟩:=h1;have:a4=b4:=by omega
 rw[this]
theorem zby{n:Int}(h0:0<=n)(h1:n<=100):(Lit.int .i64 n).wf=true:=WalkArith.wf_i64 (by omega)
theorem zbK{l:List Op3}{i:Nat}(hl:l.length<=40)(hop:∀o∈l,isOpB o=true)(hi:i<l.length):Small (zah l i):=by
 have ho:=hop _ (zaj hi);have hn:zg7 l i<=40:=by have h1:=List.length_filter_le (fun o:Op3=>o.1 == (opAt l i).1) (l.take i);have h2:(l.take i).length<=i:=List.length_take_le _ _;unfold zg7 ofL;omega
 obtain⟨⟨t,a,x⟩,hx⟩:∃o,opAt l i=o:=⟨_,rfl⟩;unfold zah Small;rw[hx]at ho ⊢;simp[isOpB]at ho;obtain⟨⟨⟨⟨h1,h2⟩,h3⟩,h4⟩,h5⟩:=ho
 have hxb:0<=x/\x<=6:=by
  by_cases he:zax a=true
  ·simp[he]at h5;omega
  ·simp[he]at h5;omega
 exact⟨zby (by show(0:Int)<=t;omega) (by show t<=100;omega),zby (by show(0:Int)<=a;omega) (by show a<=100;omega),zby (by show(0:Int)<=x;omega) (by show x<=100;omega),zby (by simp) (by simp;omega)⟩
theorem zhe{w:World}{v:Value}{l:List Nm}{M:Nat}{es:Array MapEntry}{clock n:Nat}(hI:zaH w v l)(hm:w.heap[M]? = some (.map es clock))(hn:l.length=n):∃(ad:Option Addr) (b off cap:Nat),v=.slice ad n cap/\∀W,w.grownBy W (some M)->∀k,k<n->ad=some ⟨b,off,none⟩/\W.cell? ⟨b,off+k*4,none⟩=some (.int .i64 (zhg l k).1.1)/\W.cell? ⟨b,off+k*4+1,none⟩=some (.int .i64 (zhg l k).1.2.1)/\W.cell? ⟨b,off+k*4+2,none⟩=some (.int .i64 (zhg l k).1.2.2)/\W.cell? ⟨b,off+k*4+3,none⟩=some (.int .i64 (zhg l k).2):=by
 subst hn;obtain⟨ad,b,off,cap,hv,ha,_,hat⟩:=hI;refine⟨ad,b,off,cap,hv,fun W hW k hk=>?_⟩;obtain⟨c0,c1,c2,c3⟩:=hat k hk;have hne:some b≠some M:=by intro he;have he:=Option.some.inj he;subst he;simp[World.cell?,hm]at c0
 exact⟨ha (by omega),hW.cell c0 hne,hW.cell c1 hne,hW.cell c2 hne,hW.cell c3 hne⟩
theorem zkI{P:Program}{k:TypeId}{R:Value->Option (DataW Unit × List MemPlace)}{w:World}{b n:Nat}{D:DataW Unit}(h:w.ownsMap P k R b n D):∃es clock,w.heap[b]? = some (.map es clock) :=
 let ⟨es,clock,hb,_⟩:=h
 ⟨es,clock,hb⟩
end Go.Proofs.YthlhgiihngcobaaGreatDoor
