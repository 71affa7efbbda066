/-
  PROVED HERE: slices.IndexFunc and slices.ContainsFunc of ops, for any closure; slices.DeleteFunc over edges that the call itself has made, for any closure; package ills; slices.Index and slices.Contains of ops.
  Conditions: none but those that each theorem's own premises say.
-/
import Derived.Test.YthlhgiihngcobaaGreatDoorMgag
import Derived.Test.YthlhgiihngcobaaGreatDoorMgbb
import Derived.Laws.IdiomCopy
import Derived.Deep.Cut
import Derived.Deep.Upon
import Derived.Test.YthlhgiihngcobaaGreatDoorMgbd
import Derived.Test.YthlhgiihngcobaaGreatDoorMgbc
import Derived.Test.YthlhgiihngcobaaGreatDoorMgaj
import Derived.Deep.RegionHeld3
import Derived.Deep.QuietTactic
import Derived.BigQuiet
import Derived.WalkSmall
set_option maxHeartbeats 32000000
set_option maxRecDepth 100000
namespace Go.Proofs.YthlhgiihngcobaaGreatDoor
open Go.RowKit
def opV(o:Op3):Value:=.agg #[.int .i64 o.1,.int .i64 o.2.1,.int .i64 o.2.2]
theorem zdq{q:Op3->Bool}{l:List Op3}{k:Nat}{e:Op3}(h:l.take (k+1)=l.take k++[e])(h1:(l.take k).any q=false)(h2:q e=false):(l.take (k+1)).any q=false:=by rw[h,List.any_append,h1];simp[h2]
def zc3(l:List Op3)(q:Op3->Bool)(n:Int):Prop:=(n=-1/\l.any q=false)\/∃k:Nat,n=k/\k<l.length/\q (l.getD k (0,0,0))=true/\(l.take k).any q=false
theorem zic{l:List Op3}{k:Nat}(h:k<l.length):l.getD k (0,0,0)∈l:=by simp[List.getD,h]
theorem zc3.sign{l:List Op3}{q:Op3->Bool}{n:Int}(h:zc3 l q n):decide (0<=n)=l.any q:=by
 rcases h with⟨rfl,h⟩ | ⟨k,rfl,hk,hq,_⟩
 ·rw[h];rfl
 ·have:l.any q=true:=List.any_eq_true.2 ⟨_,zic hk,hq⟩;rw[this];simp
theorem zc3.none{l:List Op3}{q:Op3->Bool}(h:l.any q=false):zc3 l q (-1):=.inl ⟨rfl,h⟩
theorem zc3.some{l:List Op3}{q:Op3->Bool}{k:Nat}{e:Op3}(hk:k<l.length)(he:l.getD k (0,0,0)=e)(hq:q e=true)(h:(l.take k).any q=false):zc3 l q (k:Int):=.inr ⟨k,rfl,hk,by rw[he];exact hq,h⟩
theorem zuK(l:List Op3)(v:Value)(q:Op3->Bool)(N:Nat)(C:Array Value)(w:World)(hcall:∀(args:Array Value) (W:World),(callFunc N args).run Tryz.prog W=.ok (.enter N args) W)(hI:zai w v l)(hlen:l.length<=140737488351)
  (hp:∀W:World,Below w.heap.size w W->∀e∈l,Calls Tryz.prog N (#[opV e]++C) W fun r w'=>r=.returned (.bool (q e))/\Below W.heap.size W w') :
  Calls Tryz.prog 183 #[v,.func (.func N) #[] C] w fun r w'=>∃n:Int,r=.returned (.int .i64 n)/\zc3 l q n/\Below w.heap.size w w':=by
 obtain⟨ad,b,off,cap,rfl,ha,_,hbB,hops⟩:=hI;have HO:Hid (∀W,Below w.heap.size w W->∀k,k<l.length->ad=some ⟨b,off,none⟩/\W.cell? ⟨b,off+k*3,none⟩=some (.int .i64 (l.getD k (0,0,0)).1)/\W.cell? ⟨b,off+k*3+1,none⟩=some (.int .i64 (l.getD k (0,0,0)).2.1)/\W.cell? ⟨b,off+k*3+2,none⟩=some (.int .i64 (l.getD k (0,0,0)).2.2)):=fun W hW k hk=>⟨ha (by omega),(hops.below hW hbB) k hk⟩;have HP:Hid (∀W:World,Below w.heap.size w W->∀e∈l,Calls Tryz.prog N (#[opV e]++C) W fun r w'=>r=.returned (.bool (q e))/\Below W.heap.size W w'):=hp;clear ha hbB hops hp;go_enter Tryz.func183,Tryz.ntmps183;go_wp2
 go_loopw [8] (fun v8 wr=>∃k:Nat,k<=l.length/\v8=.int .i64 k/\(l.take k).any q=false/\Below w.heap.size w wr) (fun v8 _=>l.length-(intOf v8).toNat)
 case atStart=>exact⟨0,Nat.zero_le _,rfl,by simp,Below.refl _ _⟩
 case round =>
  obtain⟨k,hk,rfl,hno,hbel⟩:=hrel;have HNO:Hid ((l.take k).any q=false):=hno;clear hno;have hsz:=hbel.size;by_cases hlt:k<l.length
  ·have hlt':(k:Int)<(l.length:Int):=by omega
   obtain⟨rfl,c0,c1,c2⟩:=HO.out wr hbel k hlt;obtain⟨⟨t,a,i⟩,ho⟩:∃o:Op3,l.getD k (0,0,0)=o:=⟨_,rfl⟩;rw[ho]at c0 c1 c2;have hmem:(t,a,i)∈l:=by rw[<-ho];exact zic hlt
   have HT:Hid (l.take (k+1)=l.take k++[(t,a,i)]):=by show l.take (k+1)=l.take k++[(t,a,i)];rw[List.take_succ_eq_append_getElem hlt,<-ho];simp[List.getD,List.getElem?_eq_getElem hlt]
   have HM:Hid ((t,a,i)∈l):=hmem;have HG:Hid (l.getD k (0,0,0)=(t,a,i)):=ho;clear ho HO hmem;simp only at c0 c1 c2;cases hq:q (t,a,i)with
   | false =>
     have HQ:Hid (q (t,a,i)=false):=hq;have HC:Hid (Calls Tryz.prog N (#[.agg #[.int .i64 t,.int .i64 a,.int .i64 i]]++C) wr fun r w'=>r=.returned (.bool false)/\Below wr.heap.size wr w'):=hq ▸HP.out wr hbel _ HM.out;clear hq;go_wp2_with fail;refine HC.out.mono ?_;rintro e w1 ⟨rfl,hb1⟩;go_wp2_with fail;go_roundw
     case rel=>exact⟨k+1,by omega,by go_num,zdq HT.out HNO.out HQ.out,hbel.trans (hb1.mono hsz)⟩
     case measure=>simp[intOf];omega
   | true =>have HQ:Hid (q (t,a,i)=true):=hq;have HC:Hid (Calls Tryz.prog N (#[.agg #[.int .i64 t,.int .i64 a,.int .i64 i]]++C) wr fun r w'=>r=.returned (.bool true)/\Below wr.heap.size wr w'):=hq ▸HP.out wr hbel _ HM.out;clear hq;go_wp2_with fail;refine HC.out.mono ?_;rintro e w1 ⟨rfl,hb1⟩;go_wp2_with fail;go_ret;exact⟨_,rfl,zc3.some hlt HG.out HQ.out HNO.out,hbel.trans (hb1.mono hsz)⟩
  ·have hlt':¬(k:Int)<(l.length:Int):=by omega
   go_wp2_with fail;go_ret;refine⟨_,rfl,zc3.none ?_,hbel⟩;have h0:=HNO.out;rw[List.take_of_length_le (by omega)]at h0;exact h0
theorem zlG(l:List Op3)(v:Value)(q:Op3->Bool)(N:Nat)(C:Array Value)(w:World)(hcall:∀(args:Array Value) (W:World),(callFunc N args).run Tryz.prog W=.ok (.enter N args) W)(hI:zai w v l)(hlen:l.length<=140737488351)
  (hp:∀W:World,Below w.heap.size w W->∀e∈l,Calls Tryz.prog N (#[opV e]++C) W fun r w'=>r=.returned (.bool (q e))/\Below W.heap.size W w') :
  Calls Tryz.prog 120 #[v,.func (.func N) #[] C] w fun r w'=>r=.returned (.bool (l.any q))/\Below w.heap.size w w':=by
 have HC:Hid (Calls Tryz.prog 183 #[v,.func (.func N) #[] C] w fun r w'=>∃n:Int,r=.returned (.int .i64 n)/\zc3 l q n/\Below w.heap.size w w'):=zuK l v q N C w hcall hI hlen hp;clear hp hI hcall;go_enter Tryz.func120,Tryz.ntmps120;go_wp2_with (go_at_call 183;refine HC.out.mono ?_;rintro e w1 ⟨n,rfl,hn,hb1⟩;have hn1:=hn.sign;clear hn);all_goals go_ret
 all_goals exact⟨ret_bool (by simp_all),hb1⟩
end Go.Proofs.YthlhgiihngcobaaGreatDoor
namespace Go.Proofs.YthlhgiihngcobaaGreatDoor
open Go.RowKit
structure zbU(g B:Nat)(w w':World):Prop where
 os:w'.os=w.os
 tape:w'.tape=w.tape
 output:w'.output=w.output
 size:w.heap.size<=w'.heap.size
 block:∀k,k<B->k≠g->w'.heap[k]? = w.heap[k]?
theorem zbU.refl(g B:Nat)(w:World):zbU g B w w:=⟨rfl,rfl,rfl,Nat.le_refl _,fun _ _ _=>rfl⟩
theorem zbU.trans{g B:Nat}{w w1 w2:World}(h:zbU g B w w1)(k:zbU g B w1 w2):zbU g B w w2 :=⟨k.os.trans h.os,k.tape.trans h.tape,k.output.trans h.output,Nat.le_trans h.size k.size,fun j h1 h2=>(k.block j h1 h2).trans (h.block j h1 h2)⟩
theorem zbU.of_below{g B:Nat}{w w1:World}(h:Below B w w1):zbU g B w w1:=⟨h.os,h.tape,h.output,h.size,fun k hk _=>h.block k hk⟩
theorem zbU.grown{g:Nat}{w w1:World}(h:zbU g w.heap.size w w1):w.grownBy w1 (some g):=⟨h.os,h.tape,h.output,h.size,fun k hk hne=>h.block k hk (fun e=>hne (by rw[e]))⟩
theorem zgJ{w W:World}{row:Option Nat}(h:Below w.heap.size w W):w.grownBy W row:=⟨h.os,h.tape,h.output,h.size,fun k hk _=>h.block k hk⟩
theorem zbU.setCell{g B:Nat}{w w1:World}(h:zbU g B w w1)(k:Nat)(v:Value):zbU g B w (w1.setCell ⟨g,k,none⟩ v) :=⟨h.os,h.tape,h.output,by simpa using h.size,fun j h1 h2=>(Below.heap_setCell w1 ⟨g,k,none⟩ v j h2).trans (h.block j h1 h2)⟩
theorem zbU.setCells{g B:Nat}{w:World}:∀(vs:List Value) (o:Nat) {w1:World},zbU g B w w1->zbU g B w (w1.setCells g o vs)
 | [],_,_,h=>h
 | v::r,o,_,h=>zbU.setCells r (o+1) (h.setCell o v)
def zdM(w:World)(g n:Nat)(d:Nat->zab):Prop:=∃cur,w.heap[g]? = some (.cells cur 131 (0,0))/\∀k,k<n->cur[k*2]? = some (.int .i64 (d k).1)/\cur[k*2+1]? = some (.int .i64 (d k).2)
theorem zdM.cell{w:World}{g n:Nat}{d:Nat->zab}(h:zdM w g n d){k:Nat}(hk:k<n){t a:Int}(e:d k=(t,a)):w.cell? ⟨g,k*2,none⟩=some (.int .i64 t)/\w.cell? ⟨g,k*2+1,none⟩=some (.int .i64 a):=by obtain⟨cur,h1,h2⟩:=h;rw[cell_of_row w g _ _ _ _ h1,cell_of_row w g _ _ _ _ h1];have:=h2 k hk;rw[e]at this;exact this
theorem zdM.thaw{w:World}{g n:Nat}{d:Nat->zab}(h:zdM w g n d)(k:Nat):w.frozen? ⟨g,k,none⟩=false:=by obtain⟨cur,h1,h2⟩:=h;simp[World.frozen?,h1]
theorem zdM.lt{w:World}{g n:Nat}{d:Nat->zab}(h:zdM w g n d):g<w.heap.size:=by obtain⟨cur,h1,h2⟩:=h;exact(Array.getElem?_eq_some_iff.1 h1).1
theorem zdM.same{w w':World}{g n:Nat}{d:Nat->zab}(h:zdM w g n d)(hb:w'.heap[g]? = w.heap[g]?):zdM w' g n d:=by obtain⟨cur,h1,h2⟩:=h;exact⟨cur,hb.trans h1,h2⟩
def zqL(d:Nat->zab)(i:Nat)(p:zab):Nat->zab:=fun k=>if k=i then p else d k
theorem zdM.set{w:World}{g n:Nat}{d:Nat->zab}(h:zdM w g n d){i:Nat}(hi:i<n)(t a:Int):zdM ((w.setCell ⟨g,i*2,none⟩ (.int .i64 t)).setCell ⟨g,i*2+1,none⟩ (.int .i64 a)) g n (zqL d i (t,a)):=by
 obtain⟨cur,h1,h2⟩:=h;obtain⟨s0,s1⟩:=h2 i hi;have l1:=(Array.getElem?_eq_some_iff.1 s1).1;refine⟨(cur.setIfInBounds (i*2) (.int .i64 t)).setIfInBounds (i*2+1) (.int .i64 a),?_,fun k hk=>?_⟩
 ·unfold World.setCell;simp[Array.getElem?_modify,h1]
 ·obtain⟨k0,k1⟩:=h2 k hk;unfold zqL;simp only[Array.getElem?_setIfInBounds,Array.size_setIfInBounds];by_cases e:k=i
  ·subst e;rw[if_pos rfl,if_neg (by omega),if_pos rfl,if_pos (by omega),if_pos rfl,if_pos (by omega)];exact⟨rfl,rfl⟩
  ·rw[if_neg e,if_neg (by omega),if_neg (by omega),if_neg (by omega),if_neg (by omega)];exact⟨k0,k1⟩
def zcN(l:List zab)(q:zab->Bool)(j:Nat):List zab:=(l.take j).filter fun e=>!q e
theorem zr3{l:List zab}{q:zab->Bool}{j:Nat}{e:zab}(hj:j<l.length)(he:l.getD j (0,0)=e)(h:q e=false):zcN l q (j+1)=zcN l q j++[e]:=by
 unfold zcN;have:l[j]=e:=by rw[<-he];simp[List.getD,List.getElem?_eq_getElem hj]
 rw[List.take_succ_eq_append_getElem hj,List.filter_append,this];simp[h]
theorem zkS{l:List zab}{q:zab->Bool}{j:Nat}{e:zab}(hj:j<l.length)(he:l.getD j (0,0)=e)(h:q e=true):zcN l q (j+1)=zcN l q j:=by
 unfold zcN;have:l[j]=e:=by rw[<-he];simp[List.getD,List.getElem?_eq_getElem hj]
 rw[List.take_succ_eq_append_getElem hj,List.filter_append,this];simp[h]
theorem zqs{l:List zab}{q:zab->Bool}{j:Nat}(h:(l.take j).any q=false):zcN l q j=l.take j:=by unfold zcN;refine List.filter_eq_self.2 fun e he=>?_;have:=List.any_eq_false.1 h e he;simpa using this
theorem zqR(l:List zab)(q:zab->Bool):zcN l q l.length=l.filter fun e=>!q e:=by unfold zcN;rw[List.take_length]
structure zfF(l:List zab)(q:zab->Bool)(i j:Nat)(d:Nat->zab):Prop where
 lt:i<j
 len:(zcN l q j).length=i
 low:∀k,k<i->d k=(zcN l q j).getD k (0,0)
 high:∀k,j<=k->k<l.length->d k=l.getD k (0,0)
theorem zfF.start{l:List zab}{q:zab->Bool}{k:Nat}(hk:k<l.length)(hq:q (l.getD k (0,0))=true)(h:(l.take k).any q=false):zfF l q k (k+1) (fun i=>l.getD i (0,0)):=by have e:=(zkS hk rfl hq).trans (zqs h);refine⟨by omega,by rw[e,List.length_take];omega,fun i hi=>?_,fun _ _ _=>rfl⟩;rw[e];simp[List.getD,hi]
theorem zfF.keep{l:List zab}{q:zab->Bool}{i j:Nat}{d:Nat->zab}{e:zab}(h:zfF l q i j d)(hj:j<l.length)(he:l.getD j (0,0)=e)(hq:q e=false):zfF l q (i+1) (j+1) (zqL d i e):=by
 have h1:=zr3 hj he hq;refine⟨by have:=h.lt;omega,by rw[h1,List.length_append,h.len];rfl,fun k hk=>?_,fun k hk hl=>?_⟩
 ·rw[h1];unfold zqL;by_cases e1:k=i
  ·rw[if_pos e1,e1];simp[List.getD,<-h.len]
  ·rw[if_neg e1,h.low k (by omega)];simp[List.getD,List.getElem?_append_left (show k<(zcN l q j).length by rw[h.len];omega)]
 ·unfold zqL;rw[if_neg (by have:=h.lt;omega),h.high k (by omega) hl]
theorem zfF.skip{l:List zab}{q:zab->Bool}{i j:Nat}{d:Nat->zab}{e:zab}(h:zfF l q i j d)(hj:j<l.length)(he:l.getD j (0,0)=e)(hq:q e=true):zfF l q i (j+1) d:=by have h1:=zkS hj he hq;exact⟨by have:=h.lt;omega,by rw[h1];exact h.len,fun k hk=>by rw[h1];exact h.low k hk,fun k hk hl=>h.high k (by omega) hl⟩
theorem ziW(P:Program)(w:World)(t e ty:TypeId)(ht:P.underlying t=some (.slice e))(hv:∀w,(zeroValue e).run P w=.ok (.agg #[.int .i64 0,.int .i64 0]) w)(b o n c:Nat)(hn:0<n)
  (hc:∀j,j<n*2->(w.cell? ⟨b,o+j,none⟩).isSome=true) (hf:∀j,j<n*2->w.frozen? ⟨b,o+j,none⟩=false) :
  ∃zs,(Builtin.clear_ #[t] ty #[.slice (some ⟨b,o,none⟩) n c]).run P w=.ok (.tuple #[]) (w.setCells b o zs):=by
 have hz:∀v∈(Builtin.zeroCells #[.int .i64 0,.int .i64 0] n).toList,v.oneCell'=true:=by
  intro v hv';simp only[Builtin.zeroCells,Array.toList_map,List.mem_map]at hv';obtain⟨k,_,rfl⟩:=hv';have:k % 2=0\/k % 2=1:=by omega
  rcases this with e | e <;> simp[e] <;> rfl
 have hlen:(Builtin.zeroCells #[.int .i64 0,.int .i64 0] n).toList.length=n*2:=by simp[Builtin.zeroCells]
 have hst:=run_storeCells_cells (P:=P) b o (Builtin.zeroCells #[.int .i64 0,.int .i64 0] n).toList 0 w (by rw[hlen];simpa using hc) (by rw[hlen];simpa using hf) hz;simp only[Nat.add_zero]at hst;obtain⟨m,rfl⟩:∃m,n=m+1:=⟨n-1,by omega⟩;exact⟨(Builtin.zeroCells #[.int .i64 0,.int .i64 0] (m+1)).toList,by simp[Builtin.clear_,run_underlying ht,hv,hst,Value.cells]⟩
theorem zlV{w:World}{g cap:Nat}{l:List zab}(hg:g<w.heap.size)(h:∀k,k<l.length->w.cell? ⟨g,k*2,none⟩=some (.int .i64 (l.getD k (0,0)).1)/\w.cell? ⟨g,k*2+1,none⟩=some (.int .i64 (l.getD k (0,0)).2)):zaj w (.slice (some ⟨g,0,none⟩) l.length cap) l :=⟨some ⟨g,0,none⟩,g,0,cap,rfl,fun _=>rfl,fun h=>(by cases h),.inl hg,fun i hi=>by simpa using h i hi⟩
theorem zvs(w:World):(zeroValue 131).run Tryz.prog w=.ok (.agg #[.int .i64 0,.int .i64 0]) w:=Tryz.zeroValue131 w
theorem zn1(l:List zab)(v:Value)(q:zab->Bool)(N base:Nat)(C:Array Value)(w:World)(hcall:∀(args:Array Value) (W:World),(callFunc N args).run Tryz.prog W=.ok (.enter N args) W)(hown:w.ownsRow base 131 2 v l.length (flatE l))(hlen:l.length<=1600)
  (hp:∀W:World,w.grownBy W v.ownBlock->∀e∈l,Calls Tryz.prog N (#[.agg #[.int .i64 e.1,.int .i64 e.2]]++C) W fun r w'=>r=.returned (.bool (q e))/\Below W.heap.size W w') :
  Calls Tryz.prog 133 #[v,.func (.func N) #[] C] w fun r w'=>∃v',r=.returned v'/\zaj w' v' (l.filter fun e=>!q e)/\w.grownBy w' v.ownBlock:=by
 have hI:=zbL hown rfl;have HIX:Hid (Calls Tryz.prog 132 #[v,.func (.func N) #[] C] w fun r w'=>∃n:Int,r=.returned (.int .i64 n)/\zcG l q n/\Below w.heap.size w w'):=zjG l v q N C w hcall hI (by omega) fun W hW e he=>hp W (zgJ hW) e he;have HIS:Hid (zaj w v l):=hI;have HP:Hid (∀W:World,w.grownBy W v.ownBlock->∀e∈l,Calls Tryz.prog N (#[.agg #[.int .i64 e.1,.int .i64 e.2]]++C) W fun r w'=>r=.returned (.bool (q e))/\Below W.heap.size W w'):=hp;have HOWN:Hid (w.ownsRow base 131 2 v l.length (flatE l)):=hown;clear hI hp hown;go_enter Tryz.func133,Tryz.ntmps133;go_wp2_with fail;refine HIX.out.mono ?_;rintro e w1 ⟨n,rfl,hfirst,hb1⟩;have HB1:Hid (Below w.heap.size w w1):=hb1;clear hb1;rcases hfirst with⟨rfl,hno⟩ | ⟨k0,rfl,hk0,hq0,hno⟩
 ·have HF:Hid ((l.filter fun e=>!q e)=l):=List.filter_eq_self.2 fun e he=>by simpa using List.any_eq_false.1 hno e he
  clear hno;go_wp2_with fail;go_ret;exact⟨_,rfl,by rw[HF.out];exact HIS.out.below HB1.out (Nat.le_refl _),zgJ HB1.out⟩
 ·obtain⟨-,⟨rfl,hz⟩ | ⟨g,cap,cur,rfl,hbase,hg,hcap,hcm,hcs,htk⟩⟩:=HOWN.out
  ·omega
  ·have HH:Hid (zfF l q k0 (k0+1) (fun i=>l.getD i (0,0))):=zfF.start hk0 hq0 hno;have HR1:Hid (zdM w1 g l.length (fun i=>l.getD i (0,0))):=by refine⟨cur,(HB1.out.block g (Array.getElem?_eq_some_iff.1 hg).1).trans hg,fun k hk=>?_⟩;obtain⟨f0,f1⟩:=zkF l k hk;rw[<-htk]at f0 f1;rw[List.getElem?_take]at f0 f1;rw[if_pos (by omega)]at f0 f1;simpa using And.intro f0 f1
   have HS1:Hid (zbU g w.heap.size w w1):=zbU.of_below HB1.out;have hk0':((k0:Int) == -1)=false:=beq_eq_false_iff_ne.2 (by omega);have hgw:g<w.heap.size:=(Array.getElem?_eq_some_iff.1 hg).1;clear hno hq0 hg hcs htk hbase HB1 HIX HIS HOWN;go_wp2_with fail
   go_loopw [5,6,7] (fun v5 v6 _ wr=>∃(i j:Nat) (d:Nat->zab),v5=.int .i64 i/\v6=.int .i64 j/\j<=l.length/\zfF l q i j d/\zdM wr g l.length d/\zbU g w.heap.size w wr) (fun _ v6 _ _=>l.length-(intOf v6).toNat)
   case atStart=>exact⟨k0,k0+1,_,rfl,by go_num,by omega,HH.out,HR1.out,HS1.out⟩
   case round =>
    obtain⟨i,j,d,rfl,rfl,hj,hhalf,hrow,hsole⟩:=hrel;have HHF:Hid (zfF l q i j d):=hhalf;have HRW:Hid (zdM wr g l.length d):=hrow;have HSW:Hid (zbU g w.heap.size w wr):=hsole;have hij:=hhalf.lt;have hgr:=hrow.lt;clear hhalf hrow hsole;by_cases hlt:j<l.length
    ·have hlt':(j:Int)<(l.length:Int):=by omega
     have hil:(i:Int)<(l.length:Int):=by omega
     obtain⟨⟨t,a⟩,ho⟩:∃o:zab,l.getD j (0,0)=o:=⟨_,rfl⟩;obtain⟨⟨t2,a2⟩,ho2⟩:∃o:zab,d i=o:=⟨_,rfl⟩;obtain⟨c0,c1⟩:=HRW.out.cell hlt ((HHF.out.high j (Nat.le_refl _) hlt).trans ho);have HG:Hid (l.getD j (0,0)=(t,a)):=ho;have HG2:Hid (d i=(t2,a2)):=ho2;have HM:Hid ((t,a)∈l):=by show(t,a)∈l;rw[<-ho];simp[List.getD,List.getElem?_eq_getElem hlt]
     clear ho ho2
     go_upto_region 8 with(fail)
     obtain⟨W,hW⟩:∃W,W=wr.alloc (.cells #[.int .i64 t,.int .i64 a] 131):=⟨_,rfl⟩;rw[<-hW];obtain⟨P,hP⟩:∃P,P=wr.heap.size:=⟨_,rfl⟩;rw[<-hP];have p0:W.cell? ⟨P,0,none⟩=some (.int .i64 t):=by rw[hW,hP];simp
     have p1:W.cell? ⟨P,1,none⟩=some (.int .i64 a):=by rw[hW,hP];simp
     have hbw:Below wr.heap.size wr W:=by rw[hW];exact(Below.refl _ wr).alloc (Nat.le_refl _) _
     have HR2:Hid (zdM W g l.length d):=HRW.out.same (hbw.block g hgr);have HS2:Hid (zbU g w.heap.size w W):=HSW.out.trans (zbU.of_below (hbw.mono HSW.out.size));have hgP:g<P:=by omega
     have hPW:P<W.heap.size:=World.block_lt_of_cell? W _ p0;clear hW hP hbw HRW HSW c0 c1 hgr;cases hq:q (t,a)with
     | false =>
       have HK:Hid (zfF l q (i+1) (j+1) (zqL d i (t,a))):=HHF.out.keep hlt HG.out hq;have HC:Hid (Calls Tryz.prog N (#[.agg #[.int .i64 t,.int .i64 a]]++C) W fun r w'=>r=.returned (.bool false)/\Below W.heap.size W w'):=hq ▸HP.out W HS2.out.grown _ HM.out;clear hq;go_wp2_with fail;refine HC.out.mono ?_;rintro e w2 ⟨rfl,hb2⟩;have r0:=(hb2.cell (p:=⟨P,0,none⟩) hPW).trans p0;have r1:=(hb2.cell (p:=⟨P,1,none⟩) hPW).trans p1;have HR3:Hid (zdM w2 g l.length d):=HR2.out.same (hb2.block g (by omega));have HS3:Hid (zbU g w.heap.size w w2):=HS2.out.trans (zbU.of_below (hb2.mono HS2.out.size));obtain⟨d0,d1⟩:=HR3.out.cell (show i<l.length by omega) HG2.out;have y0:=HR3.out.thaw (i*2);have y1:=HR3.out.thaw (i*2+1);clear hb2 p0 p1;go_wp2_with fail;go_roundw
       case rel=>exact⟨i+1,j+1,_,by go_num,by go_num,by omega,HK.out,HR3.out.set (by omega) t a,(HS3.out.setCell _ _).setCell _ _⟩
       case measure=>simp[intOf];omega
     | true =>
       have HK:Hid (zfF l q i (j+1) d):=HHF.out.skip hlt HG.out hq;have HC:Hid (Calls Tryz.prog N (#[.agg #[.int .i64 t,.int .i64 a]]++C) W fun r w'=>r=.returned (.bool true)/\Below W.heap.size W w'):=hq ▸HP.out W HS2.out.grown _ HM.out;clear hq;go_wp2_with fail;refine HC.out.mono ?_;rintro e w2 ⟨rfl,hb2⟩;have HR3:Hid (zdM w2 g l.length d):=HR2.out.same (hb2.block g (by omega));have HS3:Hid (zbU g w.heap.size w w2):=HS2.out.trans (zbU.of_below (hb2.mono HS2.out.size));clear hb2 p0 p1;go_wp2_with fail;go_roundw
       case rel=>exact⟨i,j+1,_,by go_num,by go_num,by omega,HK.out,HR3.out,HS3.out⟩
       case measure=>simp[intOf];omega
    ·have hlt':¬(j:Int)<(l.length:Int):=by omega
     obtain rfl:j=l.length:=by omega
     obtain⟨zs,hcl⟩:=ziW Tryz.prog wr 89 131 0 Tryz.underlying89 zvs g (i*2) (l.length-i) (cap-i) (by omega)
      (fun m hm=>by
       obtain⟨⟨x1,x2⟩,hx⟩:∃o:zab,d (i+m / 2)=o:=⟨_,rfl⟩;obtain⟨b0,b1⟩:=HRW.out.cell (show i+m / 2<l.length by omega) hx;rcases(show i*2+m=(i+m / 2)*2\/i*2+m=(i+m / 2)*2+1 by omega)with e | e <;> rw[e]
       ·rw[b0];rfl
       ·rw[b1];rfl)
      (fun m _=>HRW.out.thaw _)
     have HCL:Hid ((Builtin.clear_ #[89] 0 #[.slice (some ⟨g,i*2,none⟩) (l.length-i) (cap-i)]).run Tryz.prog wr=.ok (.tuple #[]) (wr.setCells g (i*2) zs)):=hcl;have HEND:Hid ((zcN l q l.length).length=i):=HHF.out.len;have HE:Hid (zaj (wr.setCells g (i*2) zs) (.slice (some ⟨g,0,none⟩) i cap) (l.filter fun e=>!q e)):=by show zaj _ _ _;rw[<-zqR];have h1:=zlV (w:=wr.setCells g (i*2) zs) (g:=g) (cap:=cap) (l:=zcN l q l.length) (by have h:=(zbU.setCells (g:=g) (B:=0) zs (i*2) (zbU.refl g 0 wr)).size;omega) (fun k hk=>by rw[HEND.out]at hk;have h2:=HHF.out.low k hk;obtain⟨b0,b1⟩:=HRW.out.cell (show k<l.length by omega) h2;rw[World.cell?_setCells_out g zs (i*2) wr ⟨g,k*2,none⟩ (fun _ _=>.inl (by show k*2<i*2;omega)),World.cell?_setCells_out g zs (i*2) wr ⟨g,k*2+1,none⟩ (fun _ _=>.inl (by show k*2+1<i*2;omega))];exact⟨b0,b1⟩);rw[HEND.out]at h1;exact h1
     have hS:w.grownBy (wr.setCells g (i*2) zs) (some g):=(zbU.setCells zs (i*2) HSW.out).grown;have HS:Hid (w.grownBy (wr.setCells g (i*2) zs) (some g)):=hS;have hil:(i:Int)<=(l.length:Int):=by omega
     have hic:(i:Int)<=(cap:Int):=by omega
     have hne:¬cap=i:=by omega
     clear hS HCL;go_wp2;go_ret;exact⟨_,rfl,HE.out,HS.out⟩
end Go.Proofs.YthlhgiihngcobaaGreatDoor
namespace Go.Proofs.YthlhgiihngcobaaGreatDoor
open Go.RowKit
theorem zcK{p:Prop}(h:p):Hid p:=h
theorem zsS:∀(args:Array Value) (W:World),(callFunc 188 args).run Tryz.prog W=.ok (.enter 188 args) W:=fun args W=>by kernel_rfl
theorem ztE:∀(args:Array Value) (W:World),(callFunc 134 args).run Tryz.prog W=.ok (.enter 134 args) W:=fun args W=>by kernel_rfl
theorem zAr(o:Op3)(t:Int)(P:Nat)(w:World)(k:w.cell? ⟨P,0,none⟩=some (.int .i64 t)):Calls Tryz.prog 188 (#[opV o] ++ #[.pointer (some ⟨P,0,none⟩)]) w fun e w'=>e=.returned (.bool (o.1 == t && zaM o.2.1))/\Below w.heap.size w w':=by
 obtain⟨a,b,i⟩:=o;have l1:=World.block_lt_of_cell? w _ k;unfold opV;simp only at l1;cases h1:(a == t)with
 | false =>go_enter Tryz.func188,Tryz.ntmps188;go_wp2_with fail;go_ret;exact⟨ret_bool (by simp),(Below.refl _ w).alloc (Nat.le_refl _) _⟩
 | true =>
   cases h2:(b == 3)with
   | true =>go_enter Tryz.func188,Tryz.ntmps188;go_wp2_with fail;go_ret;exact⟨ret_bool (by simp[h2,zaM]),(Below.refl _ w).alloc (Nat.le_refl _) _⟩
   | false =>
     cases h3:(b == 4)with
     | true =>go_enter Tryz.func188,Tryz.ntmps188;go_wp2_with fail;go_ret;exact⟨ret_bool (by simp[h2,h3,zaM]),(Below.refl _ w).alloc (Nat.le_refl _) _⟩
     | false =>go_enter Tryz.func188,Tryz.ntmps188;go_wp2_with fail;go_ret;exact⟨ret_bool (by simp[h2,h3,zaM]),(Below.refl _ w).alloc (Nat.le_refl _) _⟩
theorem zwI(t:Int)(w:World):Calls Tryz.prog 135 #[.int .i64 t] w fun e w'=>e=.returned (.func (.func 188) #[] #[.pointer (some ⟨w.heap.size,0,none⟩)])/\w'.cell? ⟨w.heap.size,0,none⟩=some (.int .i64 t)/\Below w.heap.size w w':=by
 go_enter Tryz.func135,Tryz.ntmps135;go_wp2;all_goals go_ret
 all_goals exact⟨rfl,by simp,(Below.refl _ w).alloc (Nat.le_refl _) _⟩
theorem zqW(t:Int)(w W:World)(hW:Below w.heap.size w W):Calls Tryz.prog 135 #[.int .i64 t] W fun e w'=>∃P:Nat,e=.returned (.func (.func 188) #[] #[.pointer (some ⟨P,0,none⟩)])/\w'.cell? ⟨P,0,none⟩=some (.int .i64 t)/\Below w.heap.size w w' :=(zwI t W).mono fun _ _ ⟨h1,h2,h3⟩=>⟨_,h1,h2,hW.trans (h3.mono hW.size)⟩
theorem zfW:Tryz.prog.underlying 28=some (.slice (Tryz.prog.elem 28)):=by kernel_rfl
theorem zoD(W:World):(sizeOf (Tryz.prog.elem 28)).run Tryz.prog W=.ok 3 W:=by kernel_rfl
theorem zmE{w:World}{b off c i n:Nat}{l:List Op3}(h:zd4 w b off l)(hb:b<w.heap.size)(hin:i+n<=l.length)(A:Option Addr)(hA:0<n->A=some ⟨b,off+i*3,none⟩)(hA0:A≠none):zai w (.slice A n c) ((l.drop i).take n):=by
 have hlen:((l.drop i).take n).length=n:=by rw[List.length_take,List.length_drop];omega
 refine⟨A,b,off+i*3,c,by rw[hlen],fun hp=>hA (by omega),fun h0=>absurd h0 hA0,.inl hb,fun k hk=>?_⟩;rw[hlen]at hk;have:=h (i+k) (by omega);have e:((l.drop i).take n).getD k (0,0,0)=l.getD (i+k) (0,0,0):=by simp[List.getD,hk]
 rw[e,show off+i*3+k*3=off+(i+k)*3 by omega];exact this
theorem zzv{w:World}{b off cap i j:Nat}{l:List Op3}(h:zd4 w b off l)(hb:b<w.heap.size)(hcap:l.length<=cap)(hij:i<=j)(hj:j<=l.length):∃A c,(∀W,(Instr.sliceAt 28 (.slice (some ⟨b,off,none⟩) l.length cap) (some (.int .i64 (i:Int))) (some (.int .i64 (j:Int))) none).run Tryz.prog W=.ok (.slice A (j-i) c) W)/\zai w (.slice A (j-i) c) ((l.drop i).take (j-i)):=by
 refine⟨if cap=i then some ⟨b,off,none⟩else some ⟨b,off+i*3,none⟩,cap-i,fun W=>?_,zmE h hb (by omega) _ (fun hp=>by rw[if_neg (by omega)]) (by split <;> simp)⟩;rw[run_sliceAt_slice W _ _ _ _ _ zfW,run_slice_lh W _ _ _ _ zfW _ _ _ _ (by omega) (by omega) (by omega),zoD];simp[Result.andThen,sliced,Addr.add];split
 ·rfl
 ·by_cases h0:i*3=0
  ·rw[if_pos h0,h0];rfl
  ·rw[if_neg h0]
theorem zAN{w:World}{b off cap i:Nat}{l:List Op3}(h:zd4 w b off l)(hb:b<w.heap.size)(hcap:l.length<=cap)(hi:i<=l.length):∃A c,(∀W,(Instr.sliceAt 28 (.slice (some ⟨b,off,none⟩) l.length cap) (some (.int .i64 (i:Int))) none none).run Tryz.prog W=.ok (.slice A (l.length-i) c) W)/\zai w (.slice A (l.length-i) c) (l.drop i):=by
 have h1:=zmE (c:=cap-i) (i:=i) (n:=l.length-i) h hb (by omega) (if cap=i then some ⟨b,off,none⟩else some ⟨b,off+i*3,none⟩) (fun hp=>by rw[if_neg (by omega)]) (by split <;> simp);rw[List.take_of_length_le (by rw[List.length_drop];omega)]at h1;refine⟨if cap=i then some ⟨b,off,none⟩else some ⟨b,off+i*3,none⟩,cap-i,fun W=>?_,h1⟩;rw[run_sliceAt_slice W _ _ _ _ _ zfW,run_slice_l W _ _ _ _ zfW _ _ (by omega) (by omega),zoD];simp[Result.andThen,sliced,Addr.add];split
 ·rfl
 ·by_cases h0:i*3=0
  ·rw[if_pos h0,h0];rfl
  ·rw[if_neg h0]
theorem zj8{w:World}{ad:Option Addr}{cap:Nat}{l:List Op3}(h:zai w (.slice ad l.length cap) l)(hp:0<l.length):∃b off,ad=some ⟨b,off,none⟩/\b<w.heap.size/\zd4 w b off l:=by
 obtain⟨ad',b,off,cap',hv,ha,hn,hbB,hops⟩:=h;simp only[Value.slice.injEq]at hv;obtain⟨rfl,_,rfl⟩:=hv;refine⟨b,off,ha hp,?_,hops⟩;rcases hbB with h | h
 ·exact h
 ·rw[h]at hp;simp at hp
theorem zz4(l:List Op3)(ad:Option Addr)(cap i j H:Nat)(w:World)(hI:zai w (.slice ad l.length cap) l)(hcap:l.length<=cap)(hl:l.length<=40)(hij:i<j)(hj:j<l.length)(k:w.cell? ⟨H,0,none⟩=some (.slice ad l.length cap)):Calls Tryz.prog 134 (#[.agg #[.int .i64 (i:Int),.int .i64 (j:Int)]] ++ #[.pointer (some ⟨H,0,none⟩)]) w fun e w'=>e=.returned (.bool (goneE l ((i:Int),(j:Int))))/\Below w.heap.size w w':=by
 obtain⟨b,off,rfl,hb,hops⟩:=zj8 hI (by omega);obtain⟨A,c,hrun,hmid⟩:=zzv hops hb hcap (Nat.le_of_lt hij) (Nat.le_of_lt hj);obtain⟨c0,-,-⟩:=hops i (by omega);obtain⟨t,ht⟩:∃t,(opAt l i).1=t:=⟨_,rfl⟩;have c0':w.cell? ⟨b,off+i*3,none⟩=some (.int .i64 t):=by rw[<-ht];exact c0
 have HG:Hid (goneE l ((i:Int),(j:Int))=((l.drop i).take (j-i)).any fun o=>o.1 == t && zaM o.2.1):=by show goneE _ _=_;unfold goneE zij;simp only[Int.toNat_natCast,ht]
 obtain⟨g,hg⟩:∃g,((l.drop i).take (j-i)).any (fun o=>o.1 == t && zaM o.2.1)=g:=⟨_,rfl⟩;obtain⟨ms,hms⟩:∃ms,(l.drop i).take (j-i)=ms:=⟨_,rfl⟩;have hml:ms.length<=40:=by rw[<-hms,List.length_take,List.length_drop];omega
 obtain⟨n,hn⟩:∃n,l.length=n:=⟨_,rfl⟩;obtain⟨d,hd⟩:∃d,j-i=d:=⟨_,rfl⟩;rw[hms]at hg hmid HG;rw[hg]at HG;rw[hn]at hrun k hj;rw[hd]at hrun hmid;have HMID:Hid (∀V,Below w.heap.size w V->zai V (.slice A d c) ms):=fun V hV=>hmid.below hV (Nat.le_refl _);have HB0:=zcK hb;have hkl:=World.block_lt_of_cell? w _ k;simp only at hkl;have hin:(i:Int)<(n:Int):=by omega
 have HGN:=zcK hg;have HML:=zcK hml;clear c0 hops hI hmid ht hms hn hd hcap hl hg hml;go_enter Tryz.func134,Tryz.ntmps134
 go_upto_region 1 with(fail)
 obtain⟨W,hW⟩:∃W,W=w.alloc (.cells #[.int .i64 (i:Int),.int .i64 (j:Int)] 131):=⟨_,rfl⟩;rw[<-hW];have hbW:Below w.heap.size w W:=by rw[hW];exact(Below.refl _ w).alloc (Nat.le_refl _) _
 have p0:W.cell? ⟨w.heap.size,0,none⟩=some (.int .i64 (i:Int)):=by rw[hW];simp
 have p1:W.cell? ⟨w.heap.size,1,none⟩=some (.int .i64 (j:Int)):=by rw[hW];simp
 obtain⟨P,hP⟩:∃P,P=w.heap.size:=⟨_,rfl⟩;have HPW:Hid (P<W.heap.size):=by show P<_;rw[hP];exact World.block_lt_of_cell? W _ p0
 rw[<-hP]at p0 p1 ⊢;have k1:=(hbW.cell (p:=⟨H,0,none⟩) hkl).trans k;have d0:=(hbW.cell (p:=⟨b,off+i*3,none⟩) HB0.out).trans c0';have HBW:=zcK hbW;have HHL:Hid (H<w.heap.size):=hkl;have HKC:Hid (∀V,Below W.heap.size W V->V.cell? ⟨H,0,none⟩=some (.slice (some ⟨b,off,none⟩) n cap)/\V.cell? ⟨P,0,none⟩=some (.int .i64 (i:Int))/\V.cell? ⟨P,1,none⟩=some (.int .i64 (j:Int))/\V.cell? ⟨b,off+i*3,none⟩=some (.int .i64 t)):=fun V hV =>⟨(hV.cell (p:=⟨H,0,none⟩) (Nat.lt_of_lt_of_le HHL.out HBW.out.size)).trans k1,(hV.cell (p:=⟨P,0,none⟩) HPW.out).trans p0,(hV.cell (p:=⟨P,1,none⟩) HPW.out).trans p1,(hV.cell (p:=⟨b,off+i*3,none⟩) (Nat.lt_of_lt_of_le HB0.out HBW.out.size)).trans d0⟩;have HOF:Hid (Calls Tryz.prog 135 #[.int .i64 t] W.drew fun e w'=>∃P2:Nat,e=.returned (.func (.func 188) #[] #[.pointer (some ⟨P2,0,none⟩)])/\w'.cell? ⟨P2,0,none⟩=some (.int .i64 t)/\Below W.heap.size W w'):=zqW t W W.drew (Below.refl _ W).drew;have HCF:Hid (∀(V:World) (P2:Nat),Below W.heap.size W V->V.cell? ⟨P2,0,none⟩=some (.int .i64 t)->Calls Tryz.prog 120 #[.slice A d c,.func (.func 188) #[] #[.pointer (some ⟨P2,0,none⟩)]] V fun r w'=>r=.returned (.bool g)/\Below W.heap.size W w'):=fun V P2 hV hc=>by have h1:=zlG ms (.slice A d c) (fun o=>o.1 == t && zaM o.2.1) 188 #[.pointer (some ⟨P2,0,none⟩)] V zsS (HMID.out V (HBW.out.trans (hV.mono HBW.out.size))) (by have:=HML.out;omega) (fun W2 hW2 e _=>zAr e t P2 W2 ((hW2.cell (p:=⟨P2,0,none⟩) (World.block_lt_of_cell? V _ hc)).trans hc));rw[HGN.out]at h1;exact h1.mono fun _ _ ⟨h2,h3⟩=>⟨h2,hV.trans (h3.mono hV.size)⟩
 clear hW hbW hP c0' k hkl hb hij hj HHL HMID HGN HML
 go_region_held3 (fun w'=>w'.cell? ⟨H,0,none⟩=some (.slice (some ⟨b,off,none⟩) n cap)/\w'.cell? ⟨P,0,none⟩=some (.int .i64 (i:Int))/\w'.cell? ⟨P,1,none⟩=some (.int .i64 (j:Int))/\w'.cell? ⟨b,off+i*3,none⟩=some (.int .i64 t)) (first | exact⟨kd0,kd1,kd2,kd3⟩ | exact⟨ke0,ke1,ke2,ke3⟩ | exact⟨k1,p0,p1,d0⟩) (first | (go_at_call 135;refine HOF.out.mono ?_;rintro e w2 ⟨P2,rfl,hc2,hb2⟩;obtain⟨ke0,ke1,ke2,ke3⟩:=HKC.out w2 hb2) | (go_at_call 120;refine(HCF.out _ _ hb2 hc2).mono ?_;rintro e w3 ⟨rfl,hb3⟩;obtain⟨kd0,kd1,kd2,kd3⟩:=HKC.out w3 hb3))
 all_goals
  have HB3:Hid (Below w.heap.size w w3):=HBW.out.trans (hb3.mono HBW.out.size);clear hb2 hc2 hb3 ke0 ke1 ke2 ke3 kd0 kd1 kd2 kd3;go_wp2_with fail;go_ret;exact⟨by rw[HG.out];rfl,HB3.out⟩
theorem zzi{w:World}{base base' e size n:Nat}{v:Value}{xs:List Value}(h:w.ownsRow base e size v n xs)(hb:base'<=base):w.ownsRow base' e size v n xs:=by
 obtain⟨hl,hd | ⟨g,cap,cur,hv,hbg,r⟩⟩:=h
 ·exact⟨hl,.inl hd⟩
 ·exact⟨hl,.inr ⟨g,cap,cur,hv,Nat.le_trans hb hbg,r⟩⟩
theorem zsZ(l:List Op3)(v:Value)(w:World)(h:zai w v l)(hc:(chk l).2=0):Calls Tryz.prog 60 #[v] w fun e w'=>∃v',e=.returned (.tuple #[v',.nilIface])/\w'.ownsRow w.heap.size 131 2 v' (pairsL l).length (flatE (pairsL l))/\Below w.heap.size w w':=by go_enter Tryz.func60,Tryz.ntmps60;go_wp2_with (first | (go_at_call 81;refine(check_ok l _ _ h hc).mono ?_;rintro e w1 ⟨rfl,hb1⟩) | (go_at_call 110;refine(zkR l _ _ (h.below hb1 (Nat.le_refl _)) (zaQ hc)).mono ?_;rintro e w2 ⟨v2,rfl,hE2,hb2⟩));go_ret2;exact⟨_,rfl,zzi hE2 hb1.size,hb1.trans (hb2.mono hb1.size)⟩
theorem zkf(l:List Op3)(v:Value)(w:World)(h:zai w v l)(hc:(chk l).2≠0):Calls Tryz.prog 73 #[v] w fun e w'=>e=.returned (.tuple #[.slice none 0 0,.iface 80 (.int .i64 (chk l).2)])/\Below w.heap.size w w':=by
 have HPB:Hid (∀W,Below w.heap.size w W->Calls Tryz.prog 60 #[v] W fun e w'=>e=.returned (.tuple #[.slice none 0 0,.iface 80 (.int .i64 (chk l).2)])/\Below W.heap.size W w'):=fun W hW=>zmB l v W (h.below hW (Nat.le_refl _)) hc;obtain⟨ad,b,off,cap,rfl,-⟩:=h;obtain⟨m,hm⟩:∃m,(chk l).2=m:=⟨_,rfl⟩;rw[hm]at HPB ⊢;clear hm hc;go_enter Tryz.func73,Tryz.ntmps73
 go_upto_region 1 with(fail)
 obtain⟨W,hW⟩:∃W,W=w.alloc (.cells #[.slice ad l.length cap] 28):=⟨_,rfl⟩;rw[<-hW];have HBW:Hid (Below w.heap.size w W):=by show Below _ _ _;rw[hW];exact(Below.refl _ w).alloc (Nat.le_refl _) _
 have p0:W.cell? ⟨w.heap.size,0,none⟩=some (.slice ad l.length cap):=by rw[hW];simp
 clear hW;go_wp2_with fail;refine(HPB.out W HBW.out).mono ?_;rintro e w1 ⟨rfl,hb1⟩;have HB1:Hid (Below w.heap.size w w1):=HBW.out.trans (hb1.mono HBW.out.size);clear hb1;go_wp2_with fail;go_ret2;exact⟨rfl,HB1.out⟩
theorem zmg(l:List Op3)(ad:Option Addr)(cap:Nat)(w:World)(h:zai w (.slice ad l.length cap) l)(hcap:l.length<=cap)(hc:(chk l).2=0):Calls Tryz.prog 73 #[.slice ad l.length cap] w fun e w'=>∃v',e=.returned (.tuple #[v',.nilIface])/\zaj w' v' (openL l)/\Below w.heap.size w w':=by
 have hl:=zaQ hc;have HI:Hid (∀W,Below w.heap.size w W->zai W (.slice ad l.length cap) l):=fun W hW=>h.below hW (Nat.le_refl _);have HPB:Hid (∀W,Below w.heap.size w W->Calls Tryz.prog 60 #[.slice ad l.length cap] W fun e w'=>∃v',e=.returned (.tuple #[v',.nilIface])/\w'.ownsRow W.heap.size 131 2 v' (pairsL l).length (flatE (pairsL l))/\Below W.heap.size W w'):=fun W hW=>zsZ l _ W (HI.out W hW) hc;have HHC:Hid (l.length<=cap/\l.length<=40):=⟨hcap,hl⟩;clear h hc hcap hl;go_enter Tryz.func73,Tryz.ntmps73
 go_upto_region 1 with(fail)
 obtain⟨W,hW⟩:∃W,W=w.alloc (.cells #[.slice ad l.length cap] 28):=⟨_,rfl⟩;rw[<-hW];have HBW:Hid (Below w.heap.size w W):=by show Below _ _ _;rw[hW];exact(Below.refl _ w).alloc (Nat.le_refl _) _
 have p0:W.cell? ⟨w.heap.size,0,none⟩=some (.slice ad l.length cap):=by rw[hW];simp
 have hHW:w.heap.size<W.heap.size:=World.block_lt_of_cell? W _ p0;obtain⟨H,hH⟩:∃H,H=w.heap.size:=⟨_,rfl⟩;rw[<-hH]at p0 hHW ⊢;have HHW:=zcK hHW;have HP0:=zcK p0;clear hW hH hHW;go_wp2_with fail;refine(HPB.out W HBW.out).mono ?_;rintro e w1 ⟨pv,rfl,ho1,hb1⟩;have HDEL:Hid (Calls Tryz.prog 133 #[pv,.func (.func 134) #[] #[.pointer (some ⟨H,0,none⟩)]] w1 fun r w'=>∃v',r=.returned v'/\zaj w' v' (openL l)/\Below W.heap.size W w'):=by have hgr:∀W',w1.grownBy W' pv.ownBlock->Below W.heap.size W W':=fun W' hg=>hb1.grown hg hb1.size (fun q hq=>(ho1.lt q hq).1);refine(zn1 (pairsL l) pv (goneE l) 134 W.heap.size #[.pointer (some ⟨H,0,none⟩)] w1 ztE ho1 (zex l HHC.out.2) (fun W' hg e he=>?_)).mono fun r w' ⟨v',h1,h2,h3⟩=>⟨v',h1,h2,hgr w' h3⟩;obtain⟨i,j,hij,hj,_,rfl⟩:=zbv.1 he;have hVW:=hgr W' hg;exact zz4 l ad cap i j H W' (HI.out W' (HBW.out.trans (hVW.mono HBW.out.size))) HHC.out.1 HHC.out.2 hij hj ((hVW.cell (p:=⟨H,0,none⟩) HHW.out).trans HP0.out)
 obtain⟨pad,pn,pcap,rfl⟩:∃pad pn pcap,pv=.slice pad pn pcap:=by obtain⟨ad,_,_,cap,hv,_⟩:=zbL ho1 rfl;exact⟨ad,_,cap,hv⟩
 clear ho1 hb1 p0;go_wp2_with fail;refine HDEL.out.mono ?_;rintro e w2 ⟨v2,rfl,hE2,hb2⟩;have HE2:=zcK hE2;have HB2:Hid (Below w.heap.size w w2):=HBW.out.trans (hb2.mono HBW.out.size);obtain⟨qad,qn,qcap,rfl⟩:∃qad qn qcap,v2=.slice qad qn qcap:=by obtain⟨ad,_,_,cap,hv,_⟩:=hE2;exact⟨ad,_,cap,hv⟩
 clear hE2 hb2;go_wp2_with fail;go_ret2;exact⟨_,rfl,HE2.out,HB2.out⟩
end Go.Proofs.YthlhgiihngcobaaGreatDoor
namespace Go.Proofs.YthlhgiihngcobaaGreatDoor
open Go.RowKit
theorem zuB{p:Prop}(h:p):Hid p:=h
theorem zBq(t a i t2 a2 i2:Int):(((t,a,i):Op3) == (t2,a2,i2))=((t == t2) && ((a == a2) && (i == i2))):=rfl
theorem ztZ(l:List Op3)(v:Value)(o:Op3)(w:World)(hI:zai w v l)(hlen:l.length<=140737488351):Calls Tryz.prog 189 #[v,opV o] w fun r w'=>∃n:Int,r=.returned (.int .i64 n)/\decide (0<=n)=l.any (fun e=>o == e)/\Below w.heap.size w w':=by
 obtain⟨t0,a0,i0⟩:=o;obtain⟨ad,b,off,cap,rfl,ha,_,hbB,hops⟩:=hI;unfold opV;go_enter Tryz.func189,Tryz.ntmps189
 go_upto_region 1 with(fail)
 obtain⟨W,hW⟩:∃W,W=w.alloc (.cells #[.int .i64 t0,.int .i64 a0,.int .i64 i0] 103):=⟨_,rfl⟩;rw[<-hW];have hbW:Below w.heap.size w W:=by rw[hW];exact(Below.refl _ w).alloc (Nat.le_refl _) _
 have p0:W.cell? ⟨w.heap.size,0,none⟩=some (.int .i64 t0):=by rw[hW];simp
 have p1:W.cell? ⟨w.heap.size,1,none⟩=some (.int .i64 a0):=by rw[hW];simp
 have p2:W.cell? ⟨w.heap.size,2,none⟩=some (.int .i64 i0):=by rw[hW];simp
 obtain⟨P,hP⟩:∃P,P=w.heap.size:=⟨_,rfl⟩;have HPW:Hid (P<W.heap.size):=by show P<_;rw[hP];exact World.block_lt_of_cell? W _ p0
 rw[<-hP]at p0 p1 p2 ⊢;have HBW:=zuB hbW;have HO:Hid (∀V,Below W.heap.size W V->V.cell? ⟨P,0,none⟩=some (.int .i64 t0)/\V.cell? ⟨P,1,none⟩=some (.int .i64 a0)/\V.cell? ⟨P,2,none⟩=some (.int .i64 i0)/\∀k,k<l.length->ad=some ⟨b,off,none⟩/\V.cell? ⟨b,off+k*3,none⟩=some (.int .i64 (l.getD k (0,0,0)).1)/\V.cell? ⟨b,off+k*3+1,none⟩=some (.int .i64 (l.getD k (0,0,0)).2.1)/\V.cell? ⟨b,off+k*3+2,none⟩=some (.int .i64 (l.getD k (0,0,0)).2.2)):=fun V hV =>⟨(hV.cell (p:=⟨P,0,none⟩) HPW.out).trans p0,(hV.cell (p:=⟨P,1,none⟩) HPW.out).trans p1,(hV.cell (p:=⟨P,2,none⟩) HPW.out).trans p2,fun k hk=>⟨ha (by omega),(hops.below (HBW.out.trans (hV.mono HBW.out.size)) hbB) k hk⟩⟩;clear hW hbW hP p0 p1 p2 ha hbB hops;go_wp2
 go_loopw [5,8] (fun _ v8 wr=>∃k:Nat,k<=l.length/\v8=.int .i64 k/\(l.take k).any (fun e=>((t0,a0,i0):Op3) == e)=false/\Below W.heap.size W wr) (fun _ v8 _=>l.length-(intOf v8).toNat)
 case atStart=>exact⟨0,Nat.zero_le _,rfl,by simp,Below.refl _ _⟩
 case round =>
  obtain⟨k,hk,rfl,hno,hbel⟩:=hrel;have HNO:=zuB hno;have HBE:Hid (∀n,Below w.heap.size w (wr.drewN n)):=fun n=>HBW.out.trans ((below_drewN hbel n).mono HBW.out.size);have HBR:Hid (∀n,Below W.heap.size W (wr.drewN n)):=fun n=>below_drewN hbel n;clear hno;obtain⟨q0,q1,q2,hat⟩:=HO.out wr hbel;by_cases hlt:k<l.length
  ·have hlt':(k:Int)<(l.length:Int):=by omega
   obtain⟨rfl,c0,c1,c2⟩:=hat k hlt;obtain⟨⟨t,a,i⟩,ho⟩:∃o:Op3,l.getD k (0,0,0)=o:=⟨_,rfl⟩;rw[ho]at c0 c1 c2;have HM:Hid ((t,a,i)∈l):=by show _∈l;rw[<-ho];exact zic hlt
   have HT:Hid (l.take (k+1)=l.take k++[(t,a,i)]):=by show l.take (k+1)=l.take k++[(t,a,i)];rw[List.take_succ_eq_append_getElem hlt,<-ho];simp[List.getD,List.getElem?_eq_getElem hlt]
   clear ho HO hat hbel;simp only at c0 c1 c2;by_cases he:((t0,a0,i0):Op3)=(t,a,i)
   ·have HQ:Hid (l.any (fun e=>((t0,a0,i0):Op3) == e)=true):=List.any_eq_true.2 ⟨_,HM.out,by simp[he]⟩;simp only[Prod.mk.injEq]at he;obtain⟨rfl,rfl,rfl⟩:=he;go_wp2_with fail;go_quiet (fail);go_wp2_with fail;go_ret;exact⟨_,rfl,by rw[HQ.out];simp,HBE.out _⟩
   ·have HQ:Hid ((((t0,a0,i0):Op3) == (t,a,i))=false):=by show _=false;simpa using he
    have hq2:=HQ.out;rw[zBq]at hq2;cases h1:(t0 == t)with
    | false =>
      clear hq2 he;go_wp2_with fail;go_quiet (fail);go_wp2_with fail;go_roundw
      case rel=>exact⟨k+1,by omega,by go_num,zdq HT.out HNO.out HQ.out,HBR.out _⟩
      case measure=>simp[intOf];omega
    | true =>
      cases h2:(a0 == a)with
      | false =>
        clear hq2 he;go_wp2_with fail;go_quiet (fail);go_wp2_with fail;go_roundw
        case rel=>exact⟨k+1,by omega,by go_num,zdq HT.out HNO.out HQ.out,HBR.out _⟩
        case measure=>simp[intOf];omega
      | true =>
        have h3:(i0 == i)=false:=by rw[h1,h2]at hq2;simpa using hq2
        clear hq2 he;go_wp2_with fail;go_quiet (fail);go_wp2_with fail;go_roundw
        case rel=>exact⟨k+1,by omega,by go_num,zdq HT.out HNO.out HQ.out,HBR.out _⟩
        case measure=>simp[intOf];omega
  ·have hlt':¬(k:Int)<(l.length:Int):=by omega
   have HB9:=zuB (HBW.out.trans (hbel.mono HBW.out.size));go_wp2_with fail;go_ret;have h0:=HNO.out;rw[List.take_of_length_le (by omega)]at h0;exact⟨_,rfl,by rw[h0];rfl,HB9.out⟩
theorem zlH(l:List Op3)(v:Value)(o:Op3)(w:World)(hI:zai w v l)(hlen:l.length<=140737488351):Calls Tryz.prog 136 #[v,opV o] w fun r w'=>r=.returned (.bool (l.contains o))/\Below w.heap.size w w':=by
 have HC:Hid (∀W,Below w.heap.size w W->Calls Tryz.prog 189 #[v,opV o] W fun r w'=>∃n:Int,r=.returned (.int .i64 n)/\decide (0<=n)=l.contains o/\Below W.heap.size W w'):=fun W hW=>(ztZ l v o W (hI.below hW (Nat.le_refl _)) hlen).mono fun _ _ ⟨n,h1,h2,h3⟩=>⟨n,h1,by rw[h2,Bool.eq_iff_iff,List.any_eq_true,List.contains_iff_mem];exact⟨fun⟨e,he,hb⟩=>by rw[beq_iff_eq]at hb;rw[hb];exact he,fun h=>⟨o,h,by simp⟩⟩,h3⟩;obtain⟨t0,a0,i0⟩:=o;obtain⟨ad,b,off,cap,rfl,-⟩:=hI;obtain⟨g,hg⟩:∃g,l.contains (t0,a0,i0)=g:=⟨_,rfl⟩;rw[hg]at HC ⊢;unfold opV at HC ⊢;simp only at HC;clear hg hlen;go_enter Tryz.func136,Tryz.ntmps136
 go_upto_region 1 with(fail)
 obtain⟨W,hW⟩:∃W,W=w.alloc (.cells #[.int .i64 t0,.int .i64 a0,.int .i64 i0] 103):=⟨_,rfl⟩;rw[<-hW];have HBW:Hid (Below w.heap.size w W):=by show Below _ _ _;rw[hW];exact(Below.refl _ w).alloc (Nat.le_refl _) _
 have p0:W.cell? ⟨w.heap.size,0,none⟩=some (.int .i64 t0):=by rw[hW];simp
 have p1:W.cell? ⟨w.heap.size,1,none⟩=some (.int .i64 a0):=by rw[hW];simp
 have p2:W.cell? ⟨w.heap.size,2,none⟩=some (.int .i64 i0):=by rw[hW];simp
 clear hW;go_wp2_with fail;refine(HC.out W HBW.out).mono ?_;rintro e w1 ⟨n,rfl,hn,hb1⟩;have HB1:Hid (Below w.heap.size w w1):=HBW.out.trans (hb1.mono HBW.out.size);clear hb1 p0 p1 p2;go_wp2_with fail;go_ret;exact⟨rfl,HB1.out⟩
end Go.Proofs.YthlhgiihngcobaaGreatDoor
