/-
  PROVED HERE: slices.IndexFunc and slices.ContainsFunc over a slice of sources or of edges, slices.DeleteFunc over sources; slices.DeleteFunc over sources that the call itself has made, for any closure; odds.Pairs gives the pairs of a right list, and of any other Check's error; faces.Of tells whether a right list is recoverable, cautious, strict and rigorous, as said op by op.
  Conditions: none but those that each theorem's own premises say.
-/
import Derived.Test.YthlhgiihngcobaaGreatDoorMgbb
import Derived.Test.YthlhgiihngcobaaGreatDoorMgah
import Derived.Test.YthlhgiihngcobaaGreatDoorMgag
import Derived.Laws.AppendOwn
import Derived.Deep.Cut
import Derived.Laws.IdiomCopy
import Derived.Deep.Upon
import Derived.Test.YthlhgiihngcobaaGreatDoorMgav
set_option maxHeartbeats 32000000
set_option maxRecDepth 100000
namespace Go.Proofs.YthlhgiihngcobaaGreatDoor
open Go.RowKit
theorem zvT{q:zab->Bool}{l:List zab}{k:Nat}{e:zab}(h:l.take (k+1)=l.take k++[e])(h1:(l.take k).any q=false)(h2:q e=false):(l.take (k+1)).any q=false:=by rw[h,List.any_append,h1];simp[h2]
def zcE(l:List zab)(q:zab->Bool)(n:Int):Prop:=(n=-1/\l.any q=false)\/∃k:Nat,n=k/\k<l.length/\q (l.getD k (0,0))=true/\(l.take k).any q=false
theorem zcE.sign{l:List zab}{q:zab->Bool}{n:Int}(h:zcE l q n):decide (0<=n)=l.any q:=by
 rcases h with⟨rfl,h⟩ | ⟨k,rfl,hk,hq,_⟩
 ·rw[h];rfl
 ·have:l.any q=true:=List.any_eq_true.2 ⟨_,by simp[List.getD,List.getElem?_eq_getElem hk],hq⟩;rw[this];simp
theorem zcE.none{l:List zab}{q:zab->Bool}(h:l.any q=false):zcE l q (-1):=.inl ⟨rfl,h⟩
theorem zcE.some{l:List zab}{q:zab->Bool}{k:Nat}{e:zab}(hk:k<l.length)(he:l.getD k (0,0)=e)(hq:q e=true)(h:(l.take k).any q=false):zcE l q (k:Int):=.inr ⟨k,rfl,hk,by rw[he];exact hq,h⟩
theorem zlv(l:List zab)(v:Value)(q:zab->Bool)(N:Nat)(C:Array Value)(w:World)(hcall:∀(args:Array Value) (W:World),(callFunc N args).run Tryz.prog W=.ok (.enter N args) W)(hI:zaj w v l)(hlen:l.length<=140737488351)
  (hp:∀W:World,Below w.heap.size w W->∀e∈l,Calls Tryz.prog N (#[.agg #[.int .i64 e.1,.int .i64 e.2]]++C) W fun r w'=>r=.returned (.bool (q e))/\Below W.heap.size W w') :
  Calls Tryz.prog 129 #[v,.func (.func N) #[] C] w fun r w'=>∃n:Int,r=.returned (.int .i64 n)/\zcE l q n/\Below w.heap.size w w':=by
 obtain⟨ad,b,off,cap,rfl,ha,_,hbB,hops⟩:=hI;have HO:Hid (∀W,Below w.heap.size w W->∀k,k<l.length->ad=some ⟨b,off,none⟩/\W.cell? ⟨b,off+k*2,none⟩=some (.int .i64 (l.getD k (0,0)).1)/\W.cell? ⟨b,off+k*2+1,none⟩=some (.int .i64 (l.getD k (0,0)).2)):=fun W hW k hk=>⟨ha (by omega),(hops.below hW hbB) k hk⟩;have HP:Hid (∀W:World,Below w.heap.size w W->∀e∈l,Calls Tryz.prog N (#[.agg #[.int .i64 e.1,.int .i64 e.2]]++C) W fun r w'=>r=.returned (.bool (q e))/\Below W.heap.size W w'):=hp;clear ha hbB hops hp;go_enter Tryz.func129,Tryz.ntmps129;go_wp2
 go_loopw [8] (fun v8 wr=>∃k:Nat,k<=l.length/\v8=.int .i64 k/\(l.take k).any q=false/\Below w.heap.size w wr) (fun v8 _=>l.length-(intOf v8).toNat)
 case atStart=>exact⟨0,Nat.zero_le _,rfl,by simp,Below.refl _ _⟩
 case round =>
  obtain⟨k,hk,rfl,hno,hbel⟩:=hrel;have HNO:Hid ((l.take k).any q=false):=hno;clear hno;have hsz:=hbel.size;by_cases hlt:k<l.length
  ·have hlt':(k:Int)<(l.length:Int):=by omega
   obtain⟨rfl,c0,c1⟩:=HO.out wr hbel k hlt;obtain⟨⟨t,a⟩,ho⟩:∃o:zab,l.getD k (0,0)=o:=⟨_,rfl⟩;rw[ho]at c0 c1;have hmem:(t,a)∈l:=by rw[<-ho];simp[List.getD,List.getElem?_eq_getElem hlt]
   have HT:Hid (l.take (k+1)=l.take k++[(t,a)]):=by show l.take (k+1)=l.take k++[(t,a)];rw[List.take_succ_eq_append_getElem hlt,<-ho];simp[List.getD,List.getElem?_eq_getElem hlt]
   have HM:Hid ((t,a)∈l):=hmem;have HG:Hid (l.getD k (0,0)=(t,a)):=ho;clear ho HO hmem;simp only at c0 c1;cases hq:q (t,a)with
   | false =>
     have HQ:Hid (q (t,a)=false):=hq;have HC:Hid (Calls Tryz.prog N (#[.agg #[.int .i64 t,.int .i64 a]]++C) wr fun r w'=>r=.returned (.bool false)/\Below wr.heap.size wr w'):=hq ▸HP.out wr hbel _ HM.out;clear hq;go_wp2_with fail;refine HC.out.mono ?_;rintro e w1 ⟨rfl,hb1⟩;go_wp2_with fail;go_roundw
     case rel=>exact⟨k+1,by omega,by go_num,zvT HT.out HNO.out HQ.out,hbel.trans (hb1.mono hsz)⟩
     case measure=>simp[intOf];omega
   | true =>have HQ:Hid (q (t,a)=true):=hq;have HC:Hid (Calls Tryz.prog N (#[.agg #[.int .i64 t,.int .i64 a]]++C) wr fun r w'=>r=.returned (.bool true)/\Below wr.heap.size wr w'):=hq ▸HP.out wr hbel _ HM.out;clear hq;go_wp2_with fail;refine HC.out.mono ?_;rintro e w1 ⟨rfl,hb1⟩;go_wp2_with fail;go_ret;exact⟨_,rfl,zcE.some hlt HG.out HQ.out HNO.out,hbel.trans (hb1.mono hsz)⟩
  ·have hlt':¬(k:Int)<(l.length:Int):=by omega
   go_wp2_with fail;go_ret;refine⟨_,rfl,zcE.none ?_,hbel⟩;have h0:=HNO.out;rw[List.take_of_length_le (by omega)]at h0;exact h0
theorem zgL(l:List zab)(v:Value)(q:zab->Bool)(N:Nat)(C:Array Value)(w:World)(hcall:∀(args:Array Value) (W:World),(callFunc N args).run Tryz.prog W=.ok (.enter N args) W)(hI:zaj w v l)(hlen:l.length<=140737488351)
  (hp:∀W:World,Below w.heap.size w W->∀e∈l,Calls Tryz.prog N (#[.agg #[.int .i64 e.1,.int .i64 e.2]]++C) W fun r w'=>r=.returned (.bool (q e))/\Below W.heap.size W w') :
  Calls Tryz.prog 71 #[v,.func (.func N) #[] C] w fun r w'=>r=.returned (.bool (l.any q))/\Below w.heap.size w w':=by
 have HC:Hid (Calls Tryz.prog 129 #[v,.func (.func N) #[] C] w fun r w'=>∃n:Int,r=.returned (.int .i64 n)/\zcE l q n/\Below w.heap.size w w'):=zlv l v q N C w hcall hI hlen hp;clear hp hI hcall;go_enter Tryz.func71,Tryz.ntmps71;go_wp2_with (go_at_call 129;refine HC.out.mono ?_;rintro e w1 ⟨n,rfl,hn,hb1⟩;have hn1:=hn.sign;clear hn);all_goals go_ret
 all_goals exact⟨ret_bool (by simp_all),hb1⟩
end Go.Proofs.YthlhgiihngcobaaGreatDoor
namespace Go.Proofs.YthlhgiihngcobaaGreatDoor
open Go.RowKit
structure zfm(g B:Nat)(w w':World):Prop where
 os:w'.os=w.os
 tape:w'.tape=w.tape
 output:w'.output=w.output
 size:w.heap.size<=w'.heap.size
 block:∀k,k<B->k≠g->w'.heap[k]? = w.heap[k]?
theorem zfm.refl(g B:Nat)(w:World):zfm g B w w:=⟨rfl,rfl,rfl,Nat.le_refl _,fun _ _ _=>rfl⟩
theorem zfm.trans{g B:Nat}{w w1 w2:World}(h:zfm g B w w1)(k:zfm g B w1 w2):zfm g B w w2 :=⟨k.os.trans h.os,k.tape.trans h.tape,k.output.trans h.output,Nat.le_trans h.size k.size,fun j h1 h2=>(k.block j h1 h2).trans (h.block j h1 h2)⟩
theorem zfm.of_below{g B:Nat}{w w1:World}(h:Below B w w1):zfm g B w w1:=⟨h.os,h.tape,h.output,h.size,fun k hk _=>h.block k hk⟩
theorem zfm.grown{g:Nat}{w w1:World}(h:zfm g w.heap.size w w1):w.grownBy w1 (some g):=⟨h.os,h.tape,h.output,h.size,fun k hk hne=>h.block k hk (fun e=>hne (by rw[e]))⟩
theorem zhG{w W:World}{row:Option Nat}(h:Below w.heap.size w W):w.grownBy W row:=⟨h.os,h.tape,h.output,h.size,fun k hk _=>h.block k hk⟩
theorem zfm.setCell{g B:Nat}{w w1:World}(h:zfm g B w w1)(k:Nat)(v:Value):zfm g B w (w1.setCell ⟨g,k,none⟩ v) :=⟨h.os,h.tape,h.output,by simpa using h.size,fun j h1 h2=>(Below.heap_setCell w1 ⟨g,k,none⟩ v j h2).trans (h.block j h1 h2)⟩
theorem zfm.setCells{g B:Nat}{w:World}:∀(vs:List Value) (o:Nat) {w1:World},zfm g B w w1->zfm g B w (w1.setCells g o vs)
 | [],_,_,h=>h
 | v::r,o,_,h=>zfm.setCells r (o+1) (h.setCell o v)
def zkK(w:World)(g n:Nat)(d:Nat->zab):Prop:=∃cur,w.heap[g]? = some (.cells cur 126 (0,0))/\∀k,k<n->cur[k*2]? = some (.int .i64 (d k).1)/\cur[k*2+1]? = some (.int .i64 (d k).2)
theorem zkK.cell{w:World}{g n:Nat}{d:Nat->zab}(h:zkK w g n d){k:Nat}(hk:k<n){t a:Int}(e:d k=(t,a)):w.cell? ⟨g,k*2,none⟩=some (.int .i64 t)/\w.cell? ⟨g,k*2+1,none⟩=some (.int .i64 a):=by obtain⟨cur,h1,h2⟩:=h;rw[cell_of_row w g _ _ _ _ h1,cell_of_row w g _ _ _ _ h1];have:=h2 k hk;rw[e]at this;exact this
theorem zkK.thaw{w:World}{g n:Nat}{d:Nat->zab}(h:zkK w g n d)(k:Nat):w.frozen? ⟨g,k,none⟩=false:=by obtain⟨cur,h1,h2⟩:=h;simp[World.frozen?,h1]
theorem zkK.lt{w:World}{g n:Nat}{d:Nat->zab}(h:zkK w g n d):g<w.heap.size:=by obtain⟨cur,h1,h2⟩:=h;exact(Array.getElem?_eq_some_iff.1 h1).1
theorem zkK.same{w w':World}{g n:Nat}{d:Nat->zab}(h:zkK w g n d)(hb:w'.heap[g]? = w.heap[g]?):zkK w' g n d:=by obtain⟨cur,h1,h2⟩:=h;exact⟨cur,hb.trans h1,h2⟩
def zAF(d:Nat->zab)(i:Nat)(p:zab):Nat->zab:=fun k=>if k=i then p else d k
theorem zkK.set{w:World}{g n:Nat}{d:Nat->zab}(h:zkK w g n d){i:Nat}(hi:i<n)(t a:Int):zkK ((w.setCell ⟨g,i*2,none⟩ (.int .i64 t)).setCell ⟨g,i*2+1,none⟩ (.int .i64 a)) g n (zAF d i (t,a)):=by
 obtain⟨cur,h1,h2⟩:=h;obtain⟨s0,s1⟩:=h2 i hi;have l1:=(Array.getElem?_eq_some_iff.1 s1).1;refine⟨(cur.setIfInBounds (i*2) (.int .i64 t)).setIfInBounds (i*2+1) (.int .i64 a),?_,fun k hk=>?_⟩
 ·unfold World.setCell;simp[Array.getElem?_modify,h1]
 ·obtain⟨k0,k1⟩:=h2 k hk;unfold zAF;simp only[Array.getElem?_setIfInBounds,Array.size_setIfInBounds];by_cases e:k=i
  ·subst e;rw[if_pos rfl,if_neg (by omega),if_pos rfl,if_pos (by omega),if_pos rfl,if_pos (by omega)];exact⟨rfl,rfl⟩
  ·rw[if_neg e,if_neg (by omega),if_neg (by omega),if_neg (by omega),if_neg (by omega)];exact⟨k0,k1⟩
def zcA(l:List zab)(q:zab->Bool)(j:Nat):List zab:=(l.take j).filter fun e=>!q e
theorem zqU{l:List zab}{q:zab->Bool}{j:Nat}{e:zab}(hj:j<l.length)(he:l.getD j (0,0)=e)(h:q e=false):zcA l q (j+1)=zcA l q j++[e]:=by
 unfold zcA;have:l[j]=e:=by rw[<-he];simp[List.getD,List.getElem?_eq_getElem hj]
 rw[List.take_succ_eq_append_getElem hj,List.filter_append,this];simp[h]
theorem zmz{l:List zab}{q:zab->Bool}{j:Nat}{e:zab}(hj:j<l.length)(he:l.getD j (0,0)=e)(h:q e=true):zcA l q (j+1)=zcA l q j:=by
 unfold zcA;have:l[j]=e:=by rw[<-he];simp[List.getD,List.getElem?_eq_getElem hj]
 rw[List.take_succ_eq_append_getElem hj,List.filter_append,this];simp[h]
theorem zqM{l:List zab}{q:zab->Bool}{j:Nat}(h:(l.take j).any q=false):zcA l q j=l.take j:=by unfold zcA;refine List.filter_eq_self.2 fun e he=>?_;have:=List.any_eq_false.1 h e he;simpa using this
theorem zqX(l:List zab)(q:zab->Bool):zcA l q l.length=l.filter fun e=>!q e:=by unfold zcA;rw[List.take_length]
structure zpx(l:List zab)(q:zab->Bool)(i j:Nat)(d:Nat->zab):Prop where
 lt:i<j
 len:(zcA l q j).length=i
 low:∀k,k<i->d k=(zcA l q j).getD k (0,0)
 high:∀k,j<=k->k<l.length->d k=l.getD k (0,0)
theorem zpx.start{l:List zab}{q:zab->Bool}{k:Nat}(hk:k<l.length)(hq:q (l.getD k (0,0))=true)(h:(l.take k).any q=false):zpx l q k (k+1) (fun i=>l.getD i (0,0)):=by have e:=(zmz hk rfl hq).trans (zqM h);refine⟨by omega,by rw[e,List.length_take];omega,fun i hi=>?_,fun _ _ _=>rfl⟩;rw[e];simp[List.getD,hi]
theorem zpx.keep{l:List zab}{q:zab->Bool}{i j:Nat}{d:Nat->zab}{e:zab}(h:zpx l q i j d)(hj:j<l.length)(he:l.getD j (0,0)=e)(hq:q e=false):zpx l q (i+1) (j+1) (zAF d i e):=by
 have h1:=zqU hj he hq;refine⟨by have:=h.lt;omega,by rw[h1,List.length_append,h.len];rfl,fun k hk=>?_,fun k hk hl=>?_⟩
 ·rw[h1];unfold zAF;by_cases e1:k=i
  ·rw[if_pos e1,e1];simp[List.getD,<-h.len]
  ·rw[if_neg e1,h.low k (by omega)];simp[List.getD,List.getElem?_append_left (show k<(zcA l q j).length by rw[h.len];omega)]
 ·unfold zAF;rw[if_neg (by have:=h.lt;omega),h.high k (by omega) hl]
theorem zpx.skip{l:List zab}{q:zab->Bool}{i j:Nat}{d:Nat->zab}{e:zab}(h:zpx l q i j d)(hj:j<l.length)(he:l.getD j (0,0)=e)(hq:q e=true):zpx l q i (j+1) d:=by have h1:=zmz hj he hq;exact⟨by have:=h.lt;omega,by rw[h1];exact h.len,fun k hk=>by rw[h1];exact h.low k hk,fun k hk hl=>h.high k (by omega) hl⟩
theorem zkG(P:Program)(w:World)(t e ty:TypeId)(ht:P.underlying t=some (.slice e))(hv:∀w,(zeroValue e).run P w=.ok (.agg #[.int .i64 0,.int .i64 0]) w)(b o n c:Nat)(hn:0<n)
  (hc:∀j,j<n*2->(w.cell? ⟨b,o+j,none⟩).isSome=true) (hf:∀j,j<n*2->w.frozen? ⟨b,o+j,none⟩=false) :
  ∃zs,(Builtin.clear_ #[t] ty #[.slice (some ⟨b,o,none⟩) n c]).run P w=.ok (.tuple #[]) (w.setCells b o zs):=by
 have hz:∀v∈(Builtin.zeroCells #[.int .i64 0,.int .i64 0] n).toList,v.oneCell'=true:=by
  intro v hv';simp only[Builtin.zeroCells,Array.toList_map,List.mem_map]at hv';obtain⟨k,_,rfl⟩:=hv';have:k % 2=0\/k % 2=1:=by omega
  rcases this with e | e <;> simp[e] <;> rfl
 have hlen:(Builtin.zeroCells #[.int .i64 0,.int .i64 0] n).toList.length=n*2:=by simp[Builtin.zeroCells]
 have hst:=run_storeCells_cells (P:=P) b o (Builtin.zeroCells #[.int .i64 0,.int .i64 0] n).toList 0 w (by rw[hlen];simpa using hc) (by rw[hlen];simpa using hf) hz;simp only[Nat.add_zero]at hst;obtain⟨m,rfl⟩:∃m,n=m+1:=⟨n-1,by omega⟩;exact⟨(Builtin.zeroCells #[.int .i64 0,.int .i64 0] (m+1)).toList,by simp[Builtin.clear_,run_underlying ht,hv,hst,Value.cells]⟩
theorem znU{w:World}{g cap:Nat}{l:List zab}(hg:g<w.heap.size)(h:∀k,k<l.length->w.cell? ⟨g,k*2,none⟩=some (.int .i64 (l.getD k (0,0)).1)/\w.cell? ⟨g,k*2+1,none⟩=some (.int .i64 (l.getD k (0,0)).2)):zaj w (.slice (some ⟨g,0,none⟩) l.length cap) l :=⟨some ⟨g,0,none⟩,g,0,cap,rfl,fun _=>rfl,fun h=>(by cases h),.inl hg,fun i hi=>by simpa using h i hi⟩
theorem zx7(w:World):(zeroValue 126).run Tryz.prog w=.ok (.agg #[.int .i64 0,.int .i64 0]) w:=Tryz.zeroValue126 w
theorem zqm(l:List zab)(v:Value)(q:zab->Bool)(N base:Nat)(C:Array Value)(w:World)(hcall:∀(args:Array Value) (W:World),(callFunc N args).run Tryz.prog W=.ok (.enter N args) W)(hown:w.ownsRow base 126 2 v l.length (flatE l))(hlen:l.length<=40)
  (hp:∀W:World,w.grownBy W v.ownBlock->∀e∈l,Calls Tryz.prog N (#[.agg #[.int .i64 e.1,.int .i64 e.2]]++C) W fun r w'=>r=.returned (.bool (q e))/\Below W.heap.size W w') :
  Calls Tryz.prog 62 #[v,.func (.func N) #[] C] w fun r w'=>∃v',r=.returned v'/\zaj w' v' (l.filter fun e=>!q e)/\w.grownBy w' v.ownBlock:=by
 have hI:=zbL hown rfl;have HIX:Hid (Calls Tryz.prog 129 #[v,.func (.func N) #[] C] w fun r w'=>∃n:Int,r=.returned (.int .i64 n)/\zcE l q n/\Below w.heap.size w w'):=zlv l v q N C w hcall hI (by omega) fun W hW e he=>hp W (zhG hW) e he;have HIS:Hid (zaj w v l):=hI;have HP:Hid (∀W:World,w.grownBy W v.ownBlock->∀e∈l,Calls Tryz.prog N (#[.agg #[.int .i64 e.1,.int .i64 e.2]]++C) W fun r w'=>r=.returned (.bool (q e))/\Below W.heap.size W w'):=hp;have HOWN:Hid (w.ownsRow base 126 2 v l.length (flatE l)):=hown;clear hI hp hown;go_enter Tryz.func62,Tryz.ntmps62;go_wp2_with fail;refine HIX.out.mono ?_;rintro e w1 ⟨n,rfl,hfirst,hb1⟩;have HB1:Hid (Below w.heap.size w w1):=hb1;clear hb1;rcases hfirst with⟨rfl,hno⟩ | ⟨k0,rfl,hk0,hq0,hno⟩
 ·have HF:Hid ((l.filter fun e=>!q e)=l):=List.filter_eq_self.2 fun e he=>by simpa using List.any_eq_false.1 hno e he
  clear hno;go_wp2_with fail;go_ret;exact⟨_,rfl,by rw[HF.out];exact HIS.out.below HB1.out (Nat.le_refl _),zhG HB1.out⟩
 ·obtain⟨-,⟨rfl,hz⟩ | ⟨g,cap,cur,rfl,hbase,hg,hcap,hcm,hcs,htk⟩⟩:=HOWN.out
  ·omega
  ·have HH:Hid (zpx l q k0 (k0+1) (fun i=>l.getD i (0,0))):=zpx.start hk0 hq0 hno;have HR1:Hid (zkK w1 g l.length (fun i=>l.getD i (0,0))):=by refine⟨cur,(HB1.out.block g (Array.getElem?_eq_some_iff.1 hg).1).trans hg,fun k hk=>?_⟩;obtain⟨f0,f1⟩:=zkF l k hk;rw[<-htk]at f0 f1;rw[List.getElem?_take]at f0 f1;rw[if_pos (by omega)]at f0 f1;simpa using And.intro f0 f1
   have HS1:Hid (zfm g w.heap.size w w1):=zfm.of_below HB1.out;have hk0':((k0:Int) == -1)=false:=beq_eq_false_iff_ne.2 (by omega);have hgw:g<w.heap.size:=(Array.getElem?_eq_some_iff.1 hg).1;clear hno hq0 hg hcs htk hbase HB1 HIX HIS HOWN;go_wp2_with fail
   go_loopw [5,6,7] (fun v5 v6 _ wr=>∃(i j:Nat) (d:Nat->zab),v5=.int .i64 i/\v6=.int .i64 j/\j<=l.length/\zpx l q i j d/\zkK wr g l.length d/\zfm g w.heap.size w wr) (fun _ v6 _ _=>l.length-(intOf v6).toNat)
   case atStart=>exact⟨k0,k0+1,_,rfl,by go_num,by omega,HH.out,HR1.out,HS1.out⟩
   case round =>
    obtain⟨i,j,d,rfl,rfl,hj,hhalf,hrow,hsole⟩:=hrel;have HHF:Hid (zpx l q i j d):=hhalf;have HRW:Hid (zkK wr g l.length d):=hrow;have HSW:Hid (zfm g w.heap.size w wr):=hsole;have hij:=hhalf.lt;have hgr:=hrow.lt;clear hhalf hrow hsole;by_cases hlt:j<l.length
    ·have hlt':(j:Int)<(l.length:Int):=by omega
     have hil:(i:Int)<(l.length:Int):=by omega
     obtain⟨⟨t,a⟩,ho⟩:∃o:zab,l.getD j (0,0)=o:=⟨_,rfl⟩;obtain⟨⟨t2,a2⟩,ho2⟩:∃o:zab,d i=o:=⟨_,rfl⟩;obtain⟨c0,c1⟩:=HRW.out.cell hlt ((HHF.out.high j (Nat.le_refl _) hlt).trans ho);have HG:Hid (l.getD j (0,0)=(t,a)):=ho;have HG2:Hid (d i=(t2,a2)):=ho2;have HM:Hid ((t,a)∈l):=by show(t,a)∈l;rw[<-ho];simp[List.getD,List.getElem?_eq_getElem hlt]
     clear ho ho2
     go_upto_region 8 with(fail)
     obtain⟨W,hW⟩:∃W,W=wr.alloc (.cells #[.int .i64 t,.int .i64 a] 126):=⟨_,rfl⟩;rw[<-hW];obtain⟨P,hP⟩:∃P,P=wr.heap.size:=⟨_,rfl⟩;rw[<-hP];have p0:W.cell? ⟨P,0,none⟩=some (.int .i64 t):=by rw[hW,hP];simp
     have p1:W.cell? ⟨P,1,none⟩=some (.int .i64 a):=by rw[hW,hP];simp
     have hbw:Below wr.heap.size wr W:=by rw[hW];exact(Below.refl _ wr).alloc (Nat.le_refl _) _
     have HR2:Hid (zkK W g l.length d):=HRW.out.same (hbw.block g hgr);have HS2:Hid (zfm g w.heap.size w W):=HSW.out.trans (zfm.of_below (hbw.mono HSW.out.size));have hgP:g<P:=by omega
     have hPW:P<W.heap.size:=World.block_lt_of_cell? W _ p0;clear hW hP hbw HRW HSW c0 c1 hgr;cases hq:q (t,a)with
     | false =>
       have HK:Hid (zpx l q (i+1) (j+1) (zAF d i (t,a))):=HHF.out.keep hlt HG.out hq;have HC:Hid (Calls Tryz.prog N (#[.agg #[.int .i64 t,.int .i64 a]]++C) W fun r w'=>r=.returned (.bool false)/\Below W.heap.size W w'):=hq ▸HP.out W HS2.out.grown _ HM.out;clear hq;go_wp2_with fail;refine HC.out.mono ?_;rintro e w2 ⟨rfl,hb2⟩;have r0:=(hb2.cell (p:=⟨P,0,none⟩) hPW).trans p0;have r1:=(hb2.cell (p:=⟨P,1,none⟩) hPW).trans p1;have HR3:Hid (zkK w2 g l.length d):=HR2.out.same (hb2.block g (by omega));have HS3:Hid (zfm g w.heap.size w w2):=HS2.out.trans (zfm.of_below (hb2.mono HS2.out.size));obtain⟨d0,d1⟩:=HR3.out.cell (show i<l.length by omega) HG2.out;have y0:=HR3.out.thaw (i*2);have y1:=HR3.out.thaw (i*2+1);clear hb2 p0 p1;go_wp2_with fail;go_roundw
       case rel=>exact⟨i+1,j+1,_,by go_num,by go_num,by omega,HK.out,HR3.out.set (by omega) t a,(HS3.out.setCell _ _).setCell _ _⟩
       case measure=>simp[intOf];omega
     | true =>
       have HK:Hid (zpx l q i (j+1) d):=HHF.out.skip hlt HG.out hq;have HC:Hid (Calls Tryz.prog N (#[.agg #[.int .i64 t,.int .i64 a]]++C) W fun r w'=>r=.returned (.bool true)/\Below W.heap.size W w'):=hq ▸HP.out W HS2.out.grown _ HM.out;clear hq;go_wp2_with fail;refine HC.out.mono ?_;rintro e w2 ⟨rfl,hb2⟩;have HR3:Hid (zkK w2 g l.length d):=HR2.out.same (hb2.block g (by omega));have HS3:Hid (zfm g w.heap.size w w2):=HS2.out.trans (zfm.of_below (hb2.mono HS2.out.size));clear hb2 p0 p1;go_wp2_with fail;go_roundw
       case rel=>exact⟨i,j+1,_,by go_num,by go_num,by omega,HK.out,HR3.out,HS3.out⟩
       case measure=>simp[intOf];omega
    ·have hlt':¬(j:Int)<(l.length:Int):=by omega
     obtain rfl:j=l.length:=by omega
     obtain⟨zs,hcl⟩:=zkG Tryz.prog wr 123 126 0 Tryz.underlying123 zx7 g (i*2) (l.length-i) (cap-i) (by omega)
      (fun m hm=>by
       obtain⟨⟨x1,x2⟩,hx⟩:∃o:zab,d (i+m / 2)=o:=⟨_,rfl⟩;obtain⟨b0,b1⟩:=HRW.out.cell (show i+m / 2<l.length by omega) hx;rcases(show i*2+m=(i+m / 2)*2\/i*2+m=(i+m / 2)*2+1 by omega)with e | e <;> rw[e]
       ·rw[b0];rfl
       ·rw[b1];rfl)
      (fun m _=>HRW.out.thaw _)
     have HCL:Hid ((Builtin.clear_ #[123] 0 #[.slice (some ⟨g,i*2,none⟩) (l.length-i) (cap-i)]).run Tryz.prog wr=.ok (.tuple #[]) (wr.setCells g (i*2) zs)):=hcl;have HEND:Hid ((zcA l q l.length).length=i):=HHF.out.len;have HE:Hid (zaj (wr.setCells g (i*2) zs) (.slice (some ⟨g,0,none⟩) i cap) (l.filter fun e=>!q e)):=by show zaj _ _ _;rw[<-zqX];have h1:=znU (w:=wr.setCells g (i*2) zs) (g:=g) (cap:=cap) (l:=zcA l q l.length) (by have h:=(zfm.setCells (g:=g) (B:=0) zs (i*2) (zfm.refl g 0 wr)).size;omega) (fun k hk=>by rw[HEND.out]at hk;have h2:=HHF.out.low k hk;obtain⟨b0,b1⟩:=HRW.out.cell (show k<l.length by omega) h2;rw[World.cell?_setCells_out g zs (i*2) wr ⟨g,k*2,none⟩ (fun _ _=>.inl (by show k*2<i*2;omega)),World.cell?_setCells_out g zs (i*2) wr ⟨g,k*2+1,none⟩ (fun _ _=>.inl (by show k*2+1<i*2;omega))];exact⟨b0,b1⟩);rw[HEND.out]at h1;exact h1
     have hS:w.grownBy (wr.setCells g (i*2) zs) (some g):=(zfm.setCells zs (i*2) HSW.out).grown;have HS:Hid (w.grownBy (wr.setCells g (i*2) zs) (some g)):=hS;have hil:(i:Int)<=(l.length:Int):=by omega
     have hic:(i:Int)<=(cap:Int):=by omega
     have hne:¬cap=i:=by omega
     clear hS HCL;go_wp2;go_ret;exact⟨_,rfl,HE.out,HS.out⟩
end Go.Proofs.YthlhgiihngcobaaGreatDoor
namespace Go.Proofs.YthlhgiihngcobaaGreatDoor
open Go.RowKit
theorem zmB(l:List Op3)(v:Value)(w:World)(h:zai w v l)(hc:(chk l).2≠0):Calls Tryz.prog 60 #[v] w fun e w'=>e=.returned (.tuple #[.slice none 0 0,.iface 80 (.int .i64 (chk l).2)])/\Below w.heap.size w w':=by go_enter Tryz.func60,Tryz.ntmps60;go_wp2_with (go_at_call 81;refine(check_bad l _ _ h hc).mono ?_;rintro e w1 ⟨rfl,hb1⟩);go_ret2;exact⟨rfl,hb1⟩
theorem zv9(l:List Op3)(v:Value)(w:World)(h:zai w v l)(hc:(chk l).2=0):Calls Tryz.prog 60 #[v] w fun e w'=>∃v',e=.returned (.tuple #[v',.nilIface])/\zaj w' v' (pairsL l)/\Below w.heap.size w w':=by go_enter Tryz.func60,Tryz.ntmps60;go_wp2_with (first | (go_at_call 81;refine(check_ok l _ _ h hc).mono ?_;rintro e w1 ⟨rfl,hb1⟩) | (go_at_call 110;refine(zma l _ _ (h.below hb1 (Nat.le_refl _)) (zaQ hc)).mono ?_;rintro e w2 ⟨v2,rfl,hE2,hb2⟩));go_ret2;exact⟨_,rfl,hE2,hb1.trans (hb2.mono hb1.size)⟩
end Go.Proofs.YthlhgiihngcobaaGreatDoor
namespace Go.Proofs.YthlhgiihngcobaaGreatDoor
open Go.RowKit
theorem zvZ(l:List Op3)(f:Nat->Int × Int)(i j:Nat)(v:Value)(B1 B2 B3:Nat)(w:World)(hI:zai w v l)(hop:∀o∈l,isOpB o=true)(hi:i<l.length)(hc:w.cell? ⟨B1,0,none⟩=some v)(hE:zaw w B2 f)(hc3:w.cell? ⟨B3,0,none⟩=some (.func (.func 68) #[] #[.pointer (some ⟨B2,0,none⟩),.pointer (some ⟨B1,0,none⟩)])):Calls Tryz.prog 70 #[.agg #[.int .i64 i,.int .i64 j],.pointer (some ⟨B1,0,none⟩),.pointer (some ⟨B3,0,none⟩)] w fun e w'=>e=.returned (.bool (ziU l f ((i:Int),(j:Int))))/\Below w.heap.size w w':=by
 have HOPN:Hid (∀W,Below w.heap.size w W->Calls Tryz.prog 68 #[.agg #[.int .i64 i,.int .i64 j],.pointer (some ⟨B2,0,none⟩),.pointer (some ⟨B1,0,none⟩)] W fun e w'=>e=.returned (.bool (zgo l f ((i:Int),(j:Int))))/\Below W.heap.size W w'):=fun W hW =>zsb l f i j v B1 B2 W (hI.below hW (Nat.le_refl _)) hop hi ((hW.cell (p:=⟨B1,0,none⟩) (World.block_lt_of_cell? w _ hc)).trans hc) (hE.below hW hE.lt);obtain⟨⟨t,a,y⟩,ho⟩:∃o:Op3,opAt l i=o:=⟨_,rfl⟩;obtain⟨b,off,cap,rfl,hb,-,c1⟩:=zhi hI hi ho;have HE:Hid (ziU l f ((i:Int),(j:Int))=(a == 2 && zgo l f ((i:Int),(j:Int)))):=by show ziU l f ((i:Int),(j:Int))=_;unfold ziU;simp only[Int.toNat_natCast,ho]
 have bB:=World.block_lt_of_cell? w _ hc;have bB3:=World.block_lt_of_cell? w _ hc3;simp only at bB bB3;clear hI ho hop hE;go_enter Tryz.func70,Tryz.ntmps70
 go_upto_region 1 with(fail)
 obtain⟨W,hW⟩:∃W,W=w.alloc (.cells #[.int .i64 i,.int .i64 j] 131):=⟨_,rfl⟩;rw[<-hW];obtain⟨P,hP⟩:∃P,P=w.heap.size:=⟨_,rfl⟩;have p0:W.cell? ⟨P,0,none⟩=some (.int .i64 i):=by rw[hW,hP];exact(zbJ w _ _ _).1
 have p1:W.cell? ⟨P,1,none⟩=some (.int .i64 j):=by rw[hW,hP];exact(zbJ w _ _ _).2
 have hbw:Below w.heap.size w W:=by rw[hW];exact(Below.refl _ w).alloc (Nat.le_refl _) _
 have k0:=(hbw.cell (p:=⟨B1,0,none⟩) bB).trans hc;have k1:=(hbw.cell (p:=⟨b,off+i*3+1,none⟩) hb).trans c1;have k2:=(hbw.cell (p:=⟨B3,0,none⟩) bB3).trans hc3;have HB:Hid (Below w.heap.size w W):=hbw;have hi':(i:Int)<(l.length:Int):=by omega
 rw[<-hP];clear hW hbw hc c1 hc3 hb bB bB3 hP;by_cases ha:a=2
 ·subst ha;go_wp2_with fail;refine(HOPN.out W HB.out).mono ?_;rintro e w1 ⟨rfl,hb1⟩;have HB1:Hid (Below w.heap.size w w1):=HB.out.trans (hb1.mono HB.out.size);clear hb1;go_wp2_with fail;go_ret;exact⟨by rw[HE.out];rfl,HB1.out⟩
 ·have ha':(a == 2)=false:=by simpa using ha
  clear ha;go_wp2_with fail;go_ret;exact⟨by rw[HE.out,ha'];rfl,HB.out⟩
theorem zgE{P:Program}{fn:Func}{p q:Tmp}{ty:TypeId}(h:fn.results=#[.cell p ty,.tmp q])(tmps:Array Value)(w:World)(g:Nat)(t:TypeId)(cs:Array Value)(fr:Nat × Nat)(d:TypeDesc)(v:Value)
  (hp:tmps.getD p undef=.pointer (some ⟨g,0,none⟩)) (hq:tmps.getD q undef=v) (hg:w.heap[g]? = some (.cells cs t fr))
  (hu:P.underlying ty=some d) (hd:(match d with | .struct _ | .array _ _=>true | _=>false)=true) (hi:(P.info? ty).map (·.size)=some cs.size) :
  (results fn tmps).run P w=.ok (.tuple #[.agg cs,v]) w:=by
 have hp':tmps[p]?.getD undef=.pointer (some ⟨g,0,none⟩):=by simpa using hp
 have hq':tmps[q]?.getD undef=v:=by simpa using hq
 simp[results,h,hp',hq',asAddr,run_loadVar_row w g t ty cs fr d hg hu hd hi]
def zbG(w:World)(b:Nat)(p q r s:Bool):Prop:=w.heap[b]? = some (.cells #[.bool p,.bool q,.bool r,.bool s] 62 (0,0))
theorem zbG.lt{w:World}{b:Nat}{p q r s:Bool}(h:zbG w b p q r s):b<w.heap.size:=by have h':w.heap[b]? = some _:=h;exact(Array.getElem?_eq_some_iff.1 h').1
theorem zbG.below{w w1:World}{b B:Nat}{p q r s:Bool}(h:zbG w b p q r s)(hb:Below B w w1)(hB:b<B):zbG w1 b p q r s:=(hb.block b hB).trans h
theorem zbG.cells{w:World}{b:Nat}{p q r s:Bool}(h:zbG w b p q r s):w.cell? ⟨b,0,none⟩=some (.bool p)/\w.cell? ⟨b,1,none⟩=some (.bool q)/\w.cell? ⟨b,2,none⟩=some (.bool r)/\w.cell? ⟨b,3,none⟩=some (.bool s) :=⟨by rw[cell_of_row w b _ _ _ _ h];rfl,by rw[cell_of_row w b _ _ _ _ h];rfl,by rw[cell_of_row w b _ _ _ _ h];rfl,by rw[cell_of_row w b _ _ _ _ h];rfl⟩
theorem zbG.thaw{w:World}{b:Nat}{p q r s:Bool}(h:zbG w b p q r s)(k:Nat):w.frozen? ⟨b,k,none⟩=false:=by have h':w.heap[b]? = some _:=h;simp[World.frozen?,h']
theorem zbG.put{w:World}{b:Nat}{p q r s:Bool}(h:zbG w b p q r s)(p1 q1 r1 s1:Bool):zbG ((((w.setCell ⟨b,0,none⟩ (.bool p1)).setCell ⟨b,1,none⟩ (.bool q1)).setCell ⟨b,2,none⟩ (.bool r1)).setCell ⟨b,3,none⟩ (.bool s1)) b p1 q1 r1 s1:=by have h':w.heap[b]? = some (.cells #[.bool p,.bool q,.bool r,.bool s] 62 (0,0)):=h;unfold zbG World.setCell;simp[Array.getElem?_modify,h']
theorem zpm(w:World)(p q r s:Bool):zbG (w.alloc (.cells #[.bool p,.bool q,.bool r,.bool s] 62)) w.heap.size p q r s:=by unfold zbG World.alloc;simp
theorem zlX:(Tryz.prog.info? 62).map (·.size)=some 4:=by kernel_rfl
theorem zAk(l:List Op3)(v:Value)(w:World)(h:zai w v l)(hc:(chk l).2≠0):Calls Tryz.prog 25 #[v] w fun e w'=>e=.returned (.tuple #[.agg #[.bool false,.bool false,.bool false,.bool false],.iface 80 (.int .i64 (chk l).2)])/\Below w.heap.size w w':=by
 have HPB:Hid (∀W,Below w.heap.size w W->Calls Tryz.prog 60 #[v] W fun e w'=>e=.returned (.tuple #[.slice none 0 0,.iface 80 (.int .i64 (chk l).2)])/\Below W.heap.size W w'):=fun W hW=>zmB l v W (h.below hW (Nat.le_refl _)) hc;obtain⟨c,hcc⟩:∃c,(chk l).2=c:=⟨_,rfl⟩;rw[hcc]at HPB ⊢;obtain⟨ad,n,cap,rfl⟩:∃ad n cap,v=.slice ad n cap:=by obtain⟨ad,_,_,cap,hv,_⟩:=h;exact⟨ad,_,cap,hv⟩
 clear h hc hcc;go_enter Tryz.func25,Tryz.ntmps25
 go_upto_region 1 with(fail)
 obtain⟨W,hW⟩:∃W,W=(w.alloc (.cells #[.slice ad n cap] 28)).alloc (.cells #[.bool false,.bool false,.bool false,.bool false] 62):=⟨_,rfl⟩;have hs1:(w.alloc (.cells #[.slice ad n cap] 28)).heap.size=w.heap.size+1:=by simp
 have HF:Hid (zbG W (w.heap.size+1) false false false false):=by show zbG W _ _ _ _ _;rw[hW,<-hs1];exact zpm _ _ _ _ _
 have p0:W.cell? ⟨w.heap.size,0,none⟩=some (.slice ad n cap):=by rw[hW];exact zdi _ (zdb w _ _)
 have HB:Hid (Below w.heap.size w W):=by show Below _ _ _;rw[hW];exact((Below.refl _ w).alloc (Nat.le_refl _) _).alloc (by simp) _
 rw[<-hW];clear hW hs1;go_wp2_with fail;refine(HPB.out W HB.out).mono ?_;rintro e w1 ⟨rfl,hb1⟩;have HF1:Hid (zbG w1 (w.heap.size+1) false false false false):=HF.out.below hb1 HF.out.lt;obtain⟨z0,z1,z2,z3⟩:=HF1.out.cells;have y0:=HF1.out.thaw 0;have y1:=HF1.out.thaw 1;have y2:=HF1.out.thaw 2;have y3:=HF1.out.thaw 3;have HB1:Hid (Below w.heap.size w w1):=HB.out.trans (hb1.mono HB.out.size);clear hb1 p0;go_wp2_with fail;refine bodyPost_ret (v:=.tuple #[.agg #[.bool false,.bool false,.bool false,.bool false],.iface 80 (.int .i64 c)]) (zgE Tryz.results25 _ _ (w.heap.size+1) 62 #[.bool false,.bool false,.bool false,.bool false] (0,0) _ _ rfl rfl (HF1.out.put _ _ _ _) Tryz.underlying62 rfl zlX) rfl ⟨rfl,?_⟩;exact(((HB1.out.setCell (by simp) _).setCell (by simp) _).setCell (by simp) _).setCell (by simp) _
end Go.Proofs.YthlhgiihngcobaaGreatDoor
