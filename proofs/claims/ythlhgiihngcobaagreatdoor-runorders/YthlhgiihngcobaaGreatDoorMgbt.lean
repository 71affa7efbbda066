/-
  PROVED HERE: slices.DeleteFunc over sources that the call itself has made, for any closure; odds.Pairs gives the pairs of a right list, and of any other Check's error.
  Conditions: none but those that each theorem's own premises say.
-/
import Derived.Test.YthlhgiihngcobaaGreatDoorMgbs
import Derived.Laws.IdiomCopy
import Derived.Deep.Upon
import Derived.Test.YthlhgiihngcobaaGreatDoorMgbf
set_option maxHeartbeats 32000000
set_option maxRecDepth 100000
namespace Go.Proofs.YthlhgiihngcobaaGreatDoor
open Go.RowKit
structure zcQ(g B:Nat)(w w':World):Prop where
 os:w'.os=w.os
 tape:w'.tape=w.tape
 output:w'.output=w.output
 size:w.heap.size<=w'.heap.size
 block:∀k,k<B->k≠g->w'.heap[k]? = w.heap[k]?
theorem zcQ.refl(g B:Nat)(w:World):zcQ g B w w:=⟨rfl,rfl,rfl,Nat.le_refl _,fun _ _ _=>rfl⟩
theorem zcQ.trans{g B:Nat}{w w1 w2:World}(h:zcQ g B w w1)(k:zcQ g B w1 w2):zcQ g B w w2 :=⟨k.os.trans h.os,k.tape.trans h.tape,k.output.trans h.output,Nat.le_trans h.size k.size,fun j h1 h2=>(k.block j h1 h2).trans (h.block j h1 h2)⟩
theorem zcQ.of_below{g B:Nat}{w w1:World}(h:Below B w w1):zcQ g B w w1:=⟨h.os,h.tape,h.output,h.size,fun k hk _=>h.block k hk⟩
theorem zcQ.grown{g:Nat}{w w1:World}(h:zcQ g w.heap.size w w1):w.grownBy w1 (some g):=⟨h.os,h.tape,h.output,h.size,fun k hk hne=>h.block k hk (fun e=>hne (by rw[e]))⟩
theorem zee{w W:World}{row:Option Nat}(h:Below w.heap.size w W):w.grownBy W row:=⟨h.os,h.tape,h.output,h.size,fun k hk _=>h.block k hk⟩
theorem zcQ.setCell{g B:Nat}{w w1:World}(h:zcQ g B w w1)(k:Nat)(v:Value):zcQ g B w (w1.setCell ⟨g,k,none⟩ v) :=⟨h.os,h.tape,h.output,by simpa using h.size,fun j h1 h2=>(Below.heap_setCell w1 ⟨g,k,none⟩ v j h2).trans (h.block j h1 h2)⟩
theorem zcQ.setCells{g B:Nat}{w:World}:∀(vs:List Value) (o:Nat) {w1:World},zcQ g B w w1->zcQ g B w (w1.setCells g o vs)
 | [],_,_,h=>h
 | v::r,o,_,h=>zcQ.setCells r (o+1) (h.setCell o v)
def zfN(w:World)(g n:Nat)(d:Nat->zaa):Prop:=∃cur,w.heap[g]? = some (.cells cur 126 (0,0))/\∀k,k<n->cur[k*2]? = some (.int .i64 (d k).1)/\cur[k*2+1]? = some (.int .i64 (d k).2)
theorem zfN.cell{w:World}{g n:Nat}{d:Nat->zaa}(h:zfN w g n d){k:Nat}(hk:k<n){t a:Int}(e:d k=(t,a)):w.cell? ⟨g,k*2,none⟩=some (.int .i64 t)/\w.cell? ⟨g,k*2+1,none⟩=some (.int .i64 a):=by obtain⟨cur,h1,h2⟩:=h;rw[cell_of_row w g _ _ _ _ h1,cell_of_row w g _ _ _ _ h1];have:=h2 k hk;rw[e]at this;exact this
theorem zfN.thaw{w:World}{g n:Nat}{d:Nat->zaa}(h:zfN w g n d)(k:Nat):w.frozen? ⟨g,k,none⟩=false:=by obtain⟨cur,h1,h2⟩:=h;simp[World.frozen?,h1]
theorem zfN.lt{w:World}{g n:Nat}{d:Nat->zaa}(h:zfN w g n d):g<w.heap.size:=by obtain⟨cur,h1,h2⟩:=h;exact(Array.getElem?_eq_some_iff.1 h1).1
theorem zfN.same{w w':World}{g n:Nat}{d:Nat->zaa}(h:zfN w g n d)(hb:w'.heap[g]? = w.heap[g]?):zfN w' g n d:=by obtain⟨cur,h1,h2⟩:=h;exact⟨cur,hb.trans h1,h2⟩
def znw(d:Nat->zaa)(i:Nat)(p:zaa):Nat->zaa:=fun k=>if k=i then p else d k
theorem zfN.set{w:World}{g n:Nat}{d:Nat->zaa}(h:zfN w g n d){i:Nat}(hi:i<n)(t a:Int):zfN ((w.setCell ⟨g,i*2,none⟩ (.int .i64 t)).setCell ⟨g,i*2+1,none⟩ (.int .i64 a)) g n (znw d i (t,a)):=by
 obtain⟨cur,h1,h2⟩:=h;obtain⟨s0,s1⟩:=h2 i hi;have l1:=(Array.getElem?_eq_some_iff.1 s1).1;refine⟨(cur.setIfInBounds (i*2) (.int .i64 t)).setIfInBounds (i*2+1) (.int .i64 a),?_,fun k hk=>?_⟩
 ·unfold World.setCell;simp[Array.getElem?_modify,h1]
 ·obtain⟨k0,k1⟩:=h2 k hk;unfold znw;simp only[Array.getElem?_setIfInBounds,Array.size_setIfInBounds];by_cases e:k=i
  ·subst e;rw[if_pos rfl,if_neg (by omega),if_pos rfl,if_pos (by omega),if_pos rfl,if_pos (by omega)];exact⟨rfl,rfl⟩
  ·rw[if_neg e,if_neg (by omega),if_neg (by omega),if_neg (by omega),if_neg (by omega)];exact⟨k0,k1⟩
def zbl(l:List zaa)(q:zaa->Bool)(j:Nat):List zaa:=(l.take j).filter fun e=>!q e
theorem zh4{l:List zaa}{q:zaa->Bool}{j:Nat}{e:zaa}(hj:j<l.length)(he:l.getD j (0,0)=e)(h:q e=false):zbl l q (j+1)=zbl l q j++[e]:=by
 unfold zbl;have:l[j]=e:=by rw[<-he];simp[List.getD,List.getElem?_eq_getElem hj]
 rw[List.take_succ_eq_append_getElem hj,List.filter_append,this];simp[h]
theorem zgl{l:List zaa}{q:zaa->Bool}{j:Nat}{e:zaa}(hj:j<l.length)(he:l.getD j (0,0)=e)(h:q e=true):zbl l q (j+1)=zbl l q j:=by
 unfold zbl;have:l[j]=e:=by rw[<-he];simp[List.getD,List.getElem?_eq_getElem hj]
 rw[List.take_succ_eq_append_getElem hj,List.filter_append,this];simp[h]
theorem zi2{l:List zaa}{q:zaa->Bool}{j:Nat}(h:(l.take j).any q=false):zbl l q j=l.take j:=by unfold zbl;refine List.filter_eq_self.2 fun e he=>?_;have:=List.any_eq_false.1 h e he;simpa using this
theorem zi1(l:List zaa)(q:zaa->Bool):zbl l q l.length=l.filter fun e=>!q e:=by unfold zbl;rw[List.take_length]
structure zhv(l:List zaa)(q:zaa->Bool)(i j:Nat)(d:Nat->zaa):Prop where
 lt:i<j
 len:(zbl l q j).length=i
 low:∀k,k<i->d k=(zbl l q j).getD k (0,0)
 high:∀k,j<=k->k<l.length->d k=l.getD k (0,0)
theorem zhv.start{l:List zaa}{q:zaa->Bool}{k:Nat}(hk:k<l.length)(hq:q (l.getD k (0,0))=true)(h:(l.take k).any q=false):zhv l q k (k+1) (fun i=>l.getD i (0,0)):=by have e:=(zgl hk rfl hq).trans (zi2 h);refine⟨by omega,by rw[e,List.length_take];omega,fun i hi=>?_,fun _ _ _=>rfl⟩;rw[e];simp[List.getD,hi]
theorem zhv.keep{l:List zaa}{q:zaa->Bool}{i j:Nat}{d:Nat->zaa}{e:zaa}(h:zhv l q i j d)(hj:j<l.length)(he:l.getD j (0,0)=e)(hq:q e=false):zhv l q (i+1) (j+1) (znw d i e):=by
 have h1:=zh4 hj he hq;refine⟨by have:=h.lt;omega,by rw[h1,List.length_append,h.len];rfl,fun k hk=>?_,fun k hk hl=>?_⟩
 ·rw[h1];unfold znw;by_cases e1:k=i
  ·rw[if_pos e1,e1];simp[List.getD,<-h.len]
  ·rw[if_neg e1,h.low k (by omega)];simp[List.getD,List.getElem?_append_left (show k<(zbl l q j).length by rw[h.len];omega)]
 ·unfold znw;rw[if_neg (by have:=h.lt;omega),h.high k (by omega) hl]
theorem zhv.skip{l:List zaa}{q:zaa->Bool}{i j:Nat}{d:Nat->zaa}{e:zaa}(h:zhv l q i j d)(hj:j<l.length)(he:l.getD j (0,0)=e)(hq:q e=true):zhv l q i (j+1) d:=by have h1:=zgl hj he hq;exact⟨by have:=h.lt;omega,by rw[h1];exact h.len,fun k hk=>by rw[h1];exact h.low k hk,fun k hk hl=>h.high k (by omega) hl⟩
theorem zfK(P:Program)(w:World)(t e ty:TypeId)(ht:P.underlying t=some (.slice e))(hv:∀w,(zeroValue e).run P w=.ok (.agg #[.int .i64 0,.int .i64 0]) w)(b o n c:Nat)(hn:0<n)
  (hc:∀j,j<n*2->(w.cell? ⟨b,o+j,none⟩).isSome=true) (hf:∀j,j<n*2->w.frozen? ⟨b,o+j,none⟩=false) :
  ∃zs,(Builtin.clear_ #[t] ty #[.slice (some ⟨b,o,none⟩) n c]).run P w=.ok (.tuple #[]) (w.setCells b o zs):=by
 have hz:∀v∈(Builtin.zeroCells #[.int .i64 0,.int .i64 0] n).toList,v.oneCell'=true:=by
  intro v hv';simp only[Builtin.zeroCells,Array.toList_map,List.mem_map]at hv';obtain⟨k,_,rfl⟩:=hv';have:k % 2=0\/k % 2=1:=by omega
  rcases this with e | e <;> simp[e] <;> rfl
 have hlen:(Builtin.zeroCells #[.int .i64 0,.int .i64 0] n).toList.length=n*2:=by simp[Builtin.zeroCells]
 have hst:=run_storeCells_cells (P:=P) b o (Builtin.zeroCells #[.int .i64 0,.int .i64 0] n).toList 0 w (by rw[hlen];simpa using hc) (by rw[hlen];simpa using hf) hz;simp only[Nat.add_zero]at hst;obtain⟨m,rfl⟩:∃m,n=m+1:=⟨n-1,by omega⟩;exact⟨(Builtin.zeroCells #[.int .i64 0,.int .i64 0] (m+1)).toList,by simp[Builtin.clear_,run_underlying ht,hv,hst,Value.cells]⟩
theorem zgQ{w:World}{g cap:Nat}{l:List zaa}(hg:g<w.heap.size)(h:∀k,k<l.length->w.cell? ⟨g,k*2,none⟩=some (.int .i64 (l.getD k (0,0)).1)/\w.cell? ⟨g,k*2+1,none⟩=some (.int .i64 (l.getD k (0,0)).2)):zae w (.slice (some ⟨g,0,none⟩) l.length cap) l :=⟨some ⟨g,0,none⟩,g,0,cap,rfl,fun _=>rfl,fun h=>(by cases h),.inl hg,fun i hi=>by simpa using h i hi⟩
theorem zlV(w:World):(zeroValue 126).run Tryz.prog w=.ok (.agg #[.int .i64 0,.int .i64 0]) w:=Tryz.zeroValue126 w
theorem ziB(l:List zaa)(v:Value)(q:zaa->Bool)(N base:Nat)(C:Array Value)(w:World)(hcall:∀(args:Array Value) (W:World),(callFunc N args).run Tryz.prog W=.ok (.enter N args) W)(hown:w.ownsRow base 126 2 v l.length (flatE l))(hlen:l.length<=40)
  (hp:∀W:World,w.grownBy W v.ownBlock->∀e∈l,Calls Tryz.prog N (#[.agg #[.int .i64 e.1,.int .i64 e.2]]++C) W fun r w'=>r=.returned (.bool (q e))/\Below W.heap.size W w') :
  Calls Tryz.prog 62 #[v,.func (.func N) #[] C] w fun r w'=>∃v',r=.returned v'/\zae w' v' (l.filter fun e=>!q e)/\w.grownBy w' v.ownBlock:=by
 have hI:=zcJ hown rfl;have HIX:Hid (Calls Tryz.prog 129 #[v,.func (.func N) #[] C] w fun r w'=>∃n:Int,r=.returned (.int .i64 n)/\zbo l q n/\Below w.heap.size w w'):=zfT l v q N C w hcall hI (by omega) fun W hW e he=>hp W (zee hW) e he;have HIS:Hid (zae w v l):=hI;have HP:Hid (∀W:World,w.grownBy W v.ownBlock->∀e∈l,Calls Tryz.prog N (#[.agg #[.int .i64 e.1,.int .i64 e.2]]++C) W fun r w'=>r=.returned (.bool (q e))/\Below W.heap.size W w'):=hp;have HOWN:Hid (w.ownsRow base 126 2 v l.length (flatE l)):=hown;clear hI hp hown;go_enter Tryz.func62,Tryz.ntmps62;go_wp2_with fail;refine HIX.out.mono ?_;rintro e w1 ⟨n,rfl,hfirst,hb1⟩;have HB1:Hid (Below w.heap.size w w1):=hb1;clear hb1;rcases hfirst with⟨rfl,hno⟩ | ⟨k0,rfl,hk0,hq0,hno⟩
 ·have HF:Hid ((l.filter fun e=>!q e)=l):=List.filter_eq_self.2 fun e he=>by simpa using List.any_eq_false.1 hno e he
  clear hno;go_wp2_with fail;go_ret;exact⟨_,rfl,by rw[HF.out];exact HIS.out.below HB1.out (Nat.le_refl _),zee HB1.out⟩
 ·obtain⟨-,⟨rfl,hz⟩ | ⟨g,cap,cur,rfl,hbase,hg,hcap,hcm,hcs,htk⟩⟩:=HOWN.out
  ·omega
  ·have HH:Hid (zhv l q k0 (k0+1) (fun i=>l.getD i (0,0))):=zhv.start hk0 hq0 hno;have HR1:Hid (zfN w1 g l.length (fun i=>l.getD i (0,0))):=by refine⟨cur,(HB1.out.block g (Array.getElem?_eq_some_iff.1 hg).1).trans hg,fun k hk=>?_⟩;obtain⟨f0,f1⟩:=zhZ l k hk;rw[<-htk]at f0 f1;rw[List.getElem?_take]at f0 f1;rw[if_pos (by omega)]at f0 f1;simpa using And.intro f0 f1
   have HS1:Hid (zcQ g w.heap.size w w1):=zcQ.of_below HB1.out;have hk0':((k0:Int) == -1)=false:=beq_eq_false_iff_ne.2 (by omega);have hgw:g<w.heap.size:=(Array.getElem?_eq_some_iff.1 hg).1;clear hno hq0 hg hcs htk hbase HB1 HIX HIS HOWN;go_wp2_with fail
   go_loopw [5,6,7] (fun v5 v6 _ wr=>∃(i j:Nat) (d:Nat->zaa),v5=.int .i64 i/\v6=.int .i64 j/\j<=l.length/\zhv l q i j d/\zfN wr g l.length d/\zcQ g w.heap.size w wr) (fun _ v6 _ _=>l.length-(intOf v6).toNat)
   case atStart=>exact⟨k0,k0+1,_,rfl,by go_num,by omega,HH.out,HR1.out,HS1.out⟩
   case round =>
    obtain⟨i,j,d,rfl,rfl,hj,hhalf,hrow,hsole⟩:=hrel;have HHF:Hid (zhv l q i j d):=hhalf;have HRW:Hid (zfN wr g l.length d):=hrow;have HSW:Hid (zcQ g w.heap.size w wr):=hsole;have hij:=hhalf.lt;have hgr:=hrow.lt;clear hhalf hrow hsole;by_cases hlt:j<l.length
    ·have hlt':(j:Int)<(l.length:Int):=by omega
     have hil:(i:Int)<(l.length:Int):=by omega
     obtain⟨⟨t,a⟩,ho⟩:∃o:zaa,l.getD j (0,0)=o:=⟨_,rfl⟩;obtain⟨⟨t2,a2⟩,ho2⟩:∃o:zaa,d i=o:=⟨_,rfl⟩;obtain⟨c0,c1⟩:=HRW.out.cell hlt ((HHF.out.high j (Nat.le_refl _) hlt).trans ho);have HG:Hid (l.getD j (0,0)=(t,a)):=ho;have HG2:Hid (d i=(t2,a2)):=ho2;have HM:Hid ((t,a)∈l):=by show(t,a)∈l;rw[<-ho];simp[List.getD,List.getElem?_eq_getElem hlt]
     clear ho ho2
     go_upto_region 8 with(fail)
     obtain⟨W,hW⟩:∃W,W=wr.alloc (.cells #[.int .i64 t,.int .i64 a] 126):=⟨_,rfl⟩;rw[<-hW];obtain⟨P,hP⟩:∃P,P=wr.heap.size:=⟨_,rfl⟩;rw[<-hP];have p0:W.cell? ⟨P,0,none⟩=some (.int .i64 t):=by rw[hW,hP];simp
     have p1:W.cell? ⟨P,1,none⟩=some (.int .i64 a):=by rw[hW,hP];simp
     have hbw:Below wr.heap.size wr W:=by rw[hW];exact(Below.refl _ wr).alloc (Nat.le_refl _) _
     have HR2:Hid (zfN W g l.length d):=HRW.out.same (hbw.block g hgr);have HS2:Hid (zcQ g w.heap.size w W):=HSW.out.trans (zcQ.of_below (hbw.mono HSW.out.size));have hgP:g<P:=by omega
     have hPW:P<W.heap.size:=World.block_lt_of_cell? W _ p0;clear hW hP hbw HRW HSW c0 c1 hgr;cases hq:q (t,a)with
     | false =>
       have HK:Hid (zhv l q (i+1) (j+1) (znw d i (t,a))):=HHF.out.keep hlt HG.out hq;have HC:Hid (Calls Tryz.prog N (#[.agg #[.int .i64 t,.int .i64 a]]++C) W fun r w'=>r=.returned (.bool false)/\Below W.heap.size W w'):=hq ▸HP.out W HS2.out.grown _ HM.out;clear hq;go_wp2_with fail;refine HC.out.mono ?_;rintro e w2 ⟨rfl,hb2⟩;have r0:=(hb2.cell (p:=⟨P,0,none⟩) hPW).trans p0;have r1:=(hb2.cell (p:=⟨P,1,none⟩) hPW).trans p1;have HR3:Hid (zfN w2 g l.length d):=HR2.out.same (hb2.block g (by omega));have HS3:Hid (zcQ g w.heap.size w w2):=HS2.out.trans (zcQ.of_below (hb2.mono HS2.out.size));obtain⟨d0,d1⟩:=HR3.out.cell (show i<l.length by omega) HG2.out;have y0:=HR3.out.thaw (i*2);have y1:=HR3.out.thaw (i*2+1);clear hb2 p0 p1;go_wp2_with fail;go_roundw
       case rel=>exact⟨i+1,j+1,_,by go_num,by go_num,by omega,HK.out,HR3.out.set (by omega) t a,(HS3.out.setCell _ _).setCell _ _⟩
       case measure=>simp[intOf];omega
     | true =>
       have HK:Hid (zhv l q i (j+1) d):=HHF.out.skip hlt HG.out hq;have HC:Hid (Calls Tryz.prog N (#[.agg #[.int .i64 t,.int .i64 a]]++C) W fun r w'=>r=.returned (.bool true)/\Below W.heap.size W w'):=hq ▸HP.out W HS2.out.grown _ HM.out;clear hq;go_wp2_with fail;refine HC.out.mono ?_;rintro e w2 ⟨rfl,hb2⟩;have HR3:Hid (zfN w2 g l.length d):=HR2.out.same (hb2.block g (by omega));have HS3:Hid (zcQ g w.heap.size w w2):=HS2.out.trans (zcQ.of_below (hb2.mono HS2.out.size));clear hb2 p0 p1;go_wp2_with fail;go_roundw
       case rel=>exact⟨i,j+1,_,by go_num,by go_num,by omega,HK.out,HR3.out,HS3.out⟩
       case measure=>simp[intOf];omega
    ·have hlt':¬(j:Int)<(l.length:Int):=by omega
     obtain rfl:j=l.length:=by omega
     obtain⟨zs,hcl⟩:=zfK Tryz.prog wr 123 126 0 Tryz.underlying123 zlV g (i*2) (l.length-i) (cap-i) (by omega)
      (fun m hm=>by
       obtain⟨⟨x1,x2⟩,hx⟩:∃o:zaa,d (i+m / 2)=o:=⟨_,rfl⟩;obtain⟨b0,b1⟩:=HRW.out.cell (show i+m / 2<l.length by omega) hx;rcases(show i*2+m=(i+m / 2)*2\/i*2+m=(i+m / 2)*2+1 by omega)with e | e <;> rw[e]
       ·rw[b0];rfl
       ·rw[b1];rfl)
      (fun m _=>HRW.out.thaw _)
     have HCL:Hid ((Builtin.clear_ #[123] 0 #[.slice (some ⟨g,i*2,none⟩) (l.length-i) (cap-i)]).run Tryz.prog wr=.ok (.tuple #[]) (wr.setCells g (i*2) zs)):=hcl;have HEND:Hid ((zbl l q l.length).length=i):=HHF.out.len;have HE:Hid (zae (wr.setCells g (i*2) zs) (.slice (some ⟨g,0,none⟩) i cap) (l.filter fun e=>!q e)):=by show zae _ _ _;rw[<-zi1];have h1:=zgQ (w:=wr.setCells g (i*2) zs) (g:=g) (cap:=cap) (l:=zbl l q l.length) (by have h:=(zcQ.setCells (g:=g) (B:=0) zs (i*2) (zcQ.refl g 0 wr)).size;omega) (fun k hk=>by rw[HEND.out]at hk;have h2:=HHF.out.low k hk;obtain⟨b0,b1⟩:=HRW.out.cell (show k<l.length by omega) h2;rw[World.cell?_setCells_out g zs (i*2) wr ⟨g,k*2,none⟩ (fun _ _=>.inl (by show k*2<i*2;omega)),World.cell?_setCells_out g zs (i*2) wr ⟨g,k*2+1,none⟩ (fun _ _=>.inl (by show k*2+1<i*2;omega))];exact⟨b0,b1⟩);rw[HEND.out]at h1;exact h1
     have hS:w.grownBy (wr.setCells g (i*2) zs) (some g):=(zcQ.setCells zs (i*2) HSW.out).grown;have HS:Hid (w.grownBy (wr.setCells g (i*2) zs) (some g)):=hS;have hil:(i:Int)<=(l.length:Int):=by omega
     have hic:(i:Int)<=(cap:Int):=by omega
     have hne:¬cap=i:=by omega
     clear hS HCL;go_wp2;go_ret;exact⟨_,rfl,HE.out,HS.out⟩
end Go.Proofs.YthlhgiihngcobaaGreatDoor
namespace Go.Proofs.YthlhgiihngcobaaGreatDoor
open Go.RowKit
theorem zkb(l:List Op3)(v:Value)(w:World)(h:zal w v l)(hc:(chk l).2≠0):Calls Tryz.prog 60 #[v] w fun e w'=>e=.returned (.tuple #[.slice none 0 0,.iface 80 (.int .i64 (chk l).2)])/\Below w.heap.size w w':=by go_enter Tryz.func60,Tryz.ntmps60;go_wp2_with (go_at_call 81;refine(check_bad l _ _ h hc).mono ?_;rintro e w1 ⟨rfl,hb1⟩);go_ret2;exact⟨rfl,hb1⟩
theorem zlX(l:List Op3)(v:Value)(w:World)(h:zal w v l)(hc:(chk l).2=0):Calls Tryz.prog 60 #[v] w fun e w'=>∃v',e=.returned (.tuple #[v',.nilIface])/\zae w' v' (pairsL l)/\Below w.heap.size w w':=by go_enter Tryz.func60,Tryz.ntmps60;go_wp2_with (first | (go_at_call 81;refine(check_ok l _ _ h hc).mono ?_;rintro e w1 ⟨rfl,hb1⟩) | (go_at_call 110;refine(zgj l _ _ (h.below hb1 (Nat.le_refl _)) (zaN hc)).mono ?_;rintro e w2 ⟨v2,rfl,hE2,hb2⟩));go_ret2;exact⟨_,rfl,hE2,hb1.trans (hb2.mono hb1.size)⟩
end Go.Proofs.YthlhgiihngcobaaGreatDoor
