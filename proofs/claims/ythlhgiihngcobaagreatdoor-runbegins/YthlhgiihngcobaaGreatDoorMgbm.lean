/-
  PROVED HERE: plain facts, with no word of the program; plain facts, with no word of the program; plain facts on who waits for whom, as edges; plain facts, with no word of the program.
  Conditions: none but those that each theorem's own premises say.
-/
import Derived.Test.YthlhgiihngcobaaGreatDoorMgan
import Derived.Test.YthlhgiihngcobaaGreatDoorMgbg
set_option maxHeartbeats 32000000
set_option maxRecDepth 100000
namespace Go.Proofs.YthlhgiihngcobaaGreatDoor
theorem zct{doF:zat->Op3->zat}{d:Int}{r:zat}(h:r.waits d=true\/r.behind d=[])(m:Nat):drainN doF d m r=r:=by
 cases m with
 | zero=>rfl
 | succ m =>
   unfold drainN;split
   ·rfl
   ·rename_i hw;rcases h with h | h
    ·exact absurd h hw
    ·rw[h]
def zf9(r:zat)(d:Int)(q:List Op3):zat:={ r with behind:=setF r.behind d q }
theorem zpk{r:zat}{d:Int}{o:Op3}{q:List Op3}(h:zb5 r)(h1:1<=d)(h6:d<=6)(hb:r.behind d=o::q):zb5 (zf9 r d q)/\pot (zf9 r d q)+1=pot r/\sum6 (zf9 r d q).behind+1=sum6 r.behind/\o.1=d/\isOpB o=true/\r.out d=false:=by
 have ho:=h.ops d o (by rw[hb];exact List.mem_cons_self)
 have hout:r.out d=false:=by
  cases he:r.out d with
  | false=>rfl
  | true=>rw[h.gone d he]at hb;cases hb
 have hsum:=zoc h1 h6 hb;refine⟨⟨h.t1,h.t2,fun e he=>?_,fun e p hp=>?_,h.size,h.vict,h.wait⟩,?_,hsum,ho.1,ho.2,hout⟩
 ·show setF r.behind d q e=[];have he':r.out e=true:=he;unfold setF;split
  ·rename_i hed;subst hed;rw[hout]at he';cases he'
  ·exact h.gone e he'
 ·have hp':p∈setF r.behind d q e:=hp;unfold setF at hp';split at hp'
  ·rename_i hed;subst hed;exact h.ops e p (by rw[hb];exact List.mem_cons_of_mem _ hp')
  ·exact h.ops e p hp'
 ·unfold pot zf9;dsimp only;omega
theorem zvQ{doF:zat->Op3->zat}(hF:zky doF){d:Int}(h1:1<=d)(h6:d<=6):∀(m k:Nat) (r:zat),zb5 r->(r.behind d).length<=m->(r.behind d).length<=k->drainN doF d m r=drainN doF d k r:=by
 intro m
 induction m with
 | zero =>intro k r _ hm _;have:r.behind d=[]:=List.length_eq_zero_iff.1 (by omega);rw[zct (.inr this),zct (.inr this)]
 | succ m ih =>
   intro k r hg hm hk;cases k with
   | zero =>have:r.behind d=[]:=List.length_eq_zero_iff.1 (by omega);rw[zct (.inr this),zct (.inr this)]
   | succ k =>
     unfold drainN;split
     ·rfl
     ·rename_i hw;split
      ·rfl
      ·rename_i o q hb;obtain⟨g1,g2,g3,g4,g5,g6⟩:=zpk hg h1 h6 hb;have hs:=hF (zf9 r d q) o g1 (by rw[g4];exact g6) (by rw[g4];show r.waits d=false;simpa using hw) g5;have hl:=hs.less d;have hq:((zf9 r d q).behind d).length=q.length:=by show(setF r.behind d q d).length=_;rw[setF_same]
       rw[hb]at hm hk;simp only[List.length_cons]at hm hk;exact ih k _ hs.good (by show((doF (zf9 r d q) o).behind d).length<=m;omega) (by show((doF (zf9 r d q) o).behind d).length<=k;omega)
theorem zrn{doF:zat->Op3->zat}(hF:zky doF){d:Int}(h1:1<=d)(h6:d<=6){r:zat}{o:Op3}{q:List Op3}(hg:zb5 r)(hw:r.waits d=false)(hb:r.behind d=o::q):drainN doF d (r.behind d).length r=drainN doF d ((doF (zf9 r d q) o).behind d).length (doF (zf9 r d q) o):=by
 obtain⟨g1,g2,g3,g4,g5,g6⟩:=zpk hg h1 h6 hb;have hs:=hF (zf9 r d q) o g1 (by rw[g4];exact g6) (by rw[g4];exact hw) g5;have hl:=hs.less d;have hq:((zf9 r d q).behind d).length=q.length:=by show(setF r.behind d q d).length=_;rw[setF_same]
 have e1:drainN doF d (q.length+1) r=drainN doF d q.length (doF (zf9 r d q) o):=by
  rw[drainN,if_neg (by rw[hw];decide)];split
  ·rename_i hb2;rw[hb]at hb2;cases hb2
  ·rename_i o2 q2 hb2;rw[hb]at hb2;injection hb2 with e2 e3;subst e2;subst e3;rfl
 rw[hb,List.length_cons,e1];exact zvQ hF h1 h6 _ _ _ hs.good (by omega) (Nat.le_refl _)
def gotR(r:zat)(d:Int):zat:={ r with waits:=setF r.waits d false,told:=r.told++[r.op d] }
theorem zyo{r:zat}{d:Int}(h:zb5 r)(hw:r.waits d=true):zb5 (gotR r d)/\pot (gotR r d)<=pot r:=by
 obtain⟨h1,h6⟩:=h.wait _ hw;have hc:=zcq h1 h6 hw;refine⟨⟨h.t1,h.t2,h.gone,h.ops,?_,h.vict,fun e he=>?_⟩,?_⟩
 ·have:=h.size;show _<=(r.told++[r.op d]).length+cnt6 (setF r.waits d false);rw[List.length_append,List.length_singleton];show r.tab.1.length+r.tab.2.length<=_;omega
 ·have he':setF r.waits d false e=true:=he;unfold setF at he';split at he'
  ·cases he'
  ·exact h.wait e he'
 ·unfold pot gotR;dsimp only;rw[List.length_append,List.length_singleton];omega
theorem zi8{doF:zat->Op3->zat}{r:zat}{x:Op3}(h:r.waits x.1=true):zbR doF r x=drainN doF x.1 ((gotR r x.1).behind x.1).length (gotR r x.1):=by unfold zbR;rw[if_pos h];rfl
theorem zlJ{doF:zat->Op3->zat}{r:zat}{x:Op3}(h:r.waits x.1=false):zbR doF r x=r:=by unfold zbR;rw[if_neg (by rw[h];decide)]
end Go.Proofs.YthlhgiihngcobaaGreatDoor
namespace Go.Proofs.YthlhgiihngcobaaGreatDoor
theorem zho{r:zat}(h:zb5 r)(o:Op3):zb5 { r with told:=r.told++[o] }/\pot { r with told:=r.told++[o] }=pot r+1:=by
 refine⟨⟨h.t1,h.t2,h.gone,h.ops,?_,h.vict,h.wait⟩,?_⟩
 ·have:=h.size;dsimp only;rw[List.length_append];omega
 ·unfold pot;dsimp only;rw[List.length_append,List.length_singleton];omega
theorem zvC{r:zat}{o:Op3}(h:zb5 r)(ho:r.out o.1=false)(hnw:r.waits o.1=false)(h1:1<=o.1)(h6:o.1<=6):zb5 (zc4 r o)/\pot (zc4 r o)=pot r+1:=by
 have hsum:=zuG r.tab (o.1,o.2.2,o.2.1)
 have hm1:∀x∈(askT r.tab (o.1,o.2.2,o.2.1)).2.1,r.out x.1=false/\1<=x.1/\x.1<=6:=fun x hx=>by
  rcases mem_ask.1 hx with h2 | h2
  ·exact h.t1 x h2
  ·rw[h2];exact⟨ho,h1,h6⟩
 have hm2:∀x∈(askT r.tab (o.1,o.2.2,o.2.1)).2.2,r.out x.1=false/\1<=x.1/\x.1<=6:=fun x hx=>by
  rcases mem_ask.2 hx with h2 | h2
  ·exact h.t2 x h2
  ·rw[h2];exact⟨ho,h1,h6⟩
 have hcw:cnt6 (setF r.waits o.1 true)=cnt6 r.waits+1:=by
  have h2:=zcq (f:=setF r.waits o.1 true) h1 h6 (setF_same _ _ _)
  have h3:setF (setF r.waits o.1 true) o.1 false=r.waits:=by
   funext d
   unfold setF;split
   ·rename_i e;rw[e,hnw]
   ·rfl
  rw[h3]at h2;omega
 refine⟨⟨hm1,hm2,h.gone,h.ops,?_,h.vict,fun d hd=>?_⟩,?_⟩
 ·have h2:=h.size;unfold zc4;dsimp only at hsum ⊢;omega
 ·have hd':setF r.waits o.1 true d=true:=hd;unfold setF at hd';split at hd'
  ·rename_i e;rw[e];exact⟨h1,h6⟩
  ·exact h.wait d hd'
 ·unfold pot zc4;dsimp only;omega
theorem zjA{l:List Int}{p:Int->Bool}:∀ {j:Nat},j<=l.length->(∀i,i<j->p (l.getD i 0)=false)->l.find? p=(l.drop j).find? p:=by
 induction l with
 | nil=>intro j hj _;simp
 | cons x q ih =>
   intro j hj hno;cases j with
   | zero=>simp
   | succ j =>have h0:=hno 0 (by omega);simp only[List.getD,List.getElem?_cons_zero,Option.getD_some]at h0;rw[List.find?_cons_of_neg (by simpa using h0),List.drop_succ_cons];exact ih (by simpa using hj) fun i hi=>by simpa[List.getD]using hno (i+1) (by omega)
theorem zry{s:za3}{t:Int}(h:∀i,i<(zaN s t).length->¬t<(zaN s t).getD i 0):zdQ s t=none:=by unfold zdQ;rw[zjA (Nat.le_refl _) fun i hi=>by simpa using h i hi];simp
theorem zvH{s:za3}{t v:Int}{j:Nat}(hj:j<(zaN s t).length)(hv:(zaN s t).getD j 0=v)(h:∀i,i<j->¬t<(zaN s t).getD i 0)(hy:t<v):zdQ s t=some v:=by
 unfold zdQ;rw[zjA (Nat.le_of_lt hj) fun i hi=>by simpa using h i hi];rw[List.drop_eq_getElem_cons hj];have e:(zaN s t)[j]=v:=by rw[<-hv];simp[List.getD,List.getElem?_eq_getElem hj]
 rw[e,List.find?_cons_of_pos (by simpa using hy)]
theorem zrH{doF:zat->Op3->zat}{t:Int}{m:Nat}{r:zat}(h:zdQ r.tab t=none):woundN doF t m r=r:=by
 cases m with
 | zero=>rfl
 | succ m=>unfold woundN;rw[h]
theorem zri{doF:zat->Op3->zat}{t v:Int}{m:Nat}{r:zat}(h:zdQ r.tab t=some v):woundN doF t (m+1) r=woundN doF t m (zco doF r v):=by rw[woundN,h]
theorem zty{r r':zat}{v:Int}(h1:1<=v)(h6:v<=6)(ho:r.out v=false)(ho':r'.out v=true)(hm:∀d,r.out d=true->r'.out d=true):(cnt6 fun d=>!r'.out d)+1<=cnt6 fun d=>!r.out d:=by
 have h2:(cnt6 fun d=>!r'.out d)<=cnt6 (setF (fun d=>!r.out d) v false):=zpl fun d hd=>by
  unfold setF;split
  ·rename_i e;rw[e,ho']at hd;cases hd
  ·cases hh:r.out d with
   | false=>show(!r.out d)=true;rw[hh];rfl
   | true=>rw[hm d hh]at hd;cases hd
 have h3:=zcq (f:=fun d=>!r.out d) h1 h6 (by simp[ho]);omega
end Go.Proofs.YthlhgiihngcobaaGreatDoor
namespace Go.Proofs.YthlhgiihngcobaaGreatDoor
open Go.RowKit
theorem putL_riseE{l:List Int}(h:l.Pairwise (· < ·))(n:Int):(zft l n).Pairwise (· < ·):=by
 induction l with
 | nil=>simp[zft]
 | cons x q ih =>
   rw[List.pairwise_cons]at h;unfold zft;split
   ·exact List.pairwise_cons.2 h
   ·split
    ·rename_i h2;refine List.pairwise_cons.2 ⟨fun y hy=>?_,List.pairwise_cons.2 h⟩;rcases List.mem_cons.1 hy with rfl | hy
     ·exact h2
     ·have:=h.1 y hy;omega
    ·rename_i h1 h2;refine List.pairwise_cons.2 ⟨fun y hy=>?_,ih h.2⟩;rcases mem_putL hy with rfl | hy
     ·omega
     ·exact h.1 y hy
theorem zi0(l:List Op3):∀ {o:List Int},o.Pairwise (· < ·)->(putsO o l).Pairwise (· < ·):=by
 induction l with
 | nil=>intro o h;exact h
 | cons x q ih=>intro o h;exact ih (putL_riseE h x.1)
theorem zk9(s:za3)(t:Int):(zaN s t).Pairwise (· < ·):=by
 unfold zaN;split
 ·exact List.Pairwise.nil
 ·unfold zyy;exact zi0 _ (zi0 _ List.Pairwise.nil)
theorem zhd{s:za3}(h:∀d x,x∈zaN s d->1<=x/\x<=6)(t:Int):(zaN s t).length<=6:=by
 have h1:(zaN s t).Nodup:=(zk9 s t).imp fun h=>by omega
 have h2:=h1.length_le_of_subset (l₂:=[1,2,3,4,5,6]) fun x hx=>by have:=h t x hx;simp;omega
 simpa using h2
def edgesK(s:za3)(k:Nat):List zab:=(List.range k).flatMap fun(d:Nat)=>(zaN s ((d:Int)+1)).map fun x=>((d:Int)+1,x)
theorem zh0(s:za3)(k:Nat):edgesK s (k+1)=edgesK s k++(zaN s ((k:Int)+1)).map fun x=>((k:Int)+1,x):=by unfold edgesK;rw[List.range_succ,List.flatMap_append];simp
theorem zjy{s:za3}(h:∀d x,x∈zaN s d->1<=x/\x<=6)(k:Nat):(edgesK s k).length<=6*k:=by
 induction k with
 | zero=>simp[edgesK]
 | succ k ih =>rw[zh0,List.length_append,List.length_map];have:=zhd h ((k:Int)+1);omega
theorem zlC{s:za3}(h:∀d x,x∈zaN s d->1<=x/\x<=6):∀e∈edgesK s 6,(1<=e.1/\e.1<=6)/\(1<=e.2/\e.2<=6):=by intro e he;unfold edgesK at he;obtain⟨d,hd,he⟩:=List.mem_flatMap.1 he;obtain⟨x,hx,rfl⟩:=List.mem_map.1 he;have:=List.mem_range.1 hd;exact⟨by simp only;omega,h _ x hx⟩
theorem zmw{w:World}{b1 b2 e1 e2 z1 z2 n1 n2:Nat}{v1 v2:Value}{x1 x2:List Value}(h1:w.ownsRow b1 e1 z1 v1 n1 x1)(h2:w.ownsRow b2 e2 z2 v2 n2 x2)(he:e1≠e2):v1.ownBlock=none\/v1.ownBlock≠v2.ownBlock:=by
 obtain⟨_,⟨hv,_⟩ | ⟨g,cap,cur,hv,_,hg,_⟩⟩:=h1
 ·exact .inl (by rw[hv];rfl)
 ·refine .inr fun e=>?_;obtain⟨_,⟨hv2,_⟩ | ⟨g2,cap2,cur2,hv2,_,hg2,_⟩⟩:=h2
  ·rw[hv,hv2]at e;cases e
  ·rw[hv,hv2]at e;simp only[Value.ownBlock,Option.some.injEq]at e;subst e;rw[hg]at hg2;simp only[Option.some.injEq,Obj.cells.injEq]at hg2;exact he hg2.2.1
end Go.Proofs.YthlhgiihngcobaaGreatDoor
namespace Go.Proofs.YthlhgiihngcobaaGreatDoor
def zea(o:Op3):Op3:=(o.1,o.2.2,o.2.1)
theorem ztQ(o:Op3):zea (zea o)=o:=rfl
structure zbw(r:zat)(P:Int->Option Op3):Prop where
 ok:zgu r.tab
 tab:∀x∈r.tab.2,r.waits x.1=true/\P x.1=none/\x=zea (r.op x.1)
 has:∀d,r.waits d=true->P d=none->∃x∈r.tab.2,x.1=d
 out:∀d,r.out d=true->r.waits d=false
 pend:∀d x,P d=some x->r.out d=false->r.waits d=true/\x=zea (r.op d)
 vict:∀d,r.out d=true↔d∈r.vict
 nodup:r.vict.Pairwise (·≠·)
 lock:∀d,r.waits d=true->zak (zea (r.op d))=true/\(r.op d).1=d
structure zep(r:zat)(P:Int->Option Op3)(t:Int):Prop where
 ok:zgu r.tab
 tab:∀x∈r.tab.2,x.1≠t->r.waits x.1=true/\P x.1=none/\x=zea (r.op x.1)
 has:∀d,r.waits d=true->P d=none->∃x∈r.tab.2,x.1=d
 out:∀d,r.out d=true->r.waits d=false
 pend:∀d x,P d=some x->r.out d=false->r.waits d=true/\x=zea (r.op d)
 vict:∀d,r.out d=true↔d∈r.vict
 nodup:r.vict.Pairwise (·≠·)
 lock:∀d,r.waits d=true->zak (zea (r.op d))=true/\(r.op d).1=d
 not:r.waits t=false
theorem fits0:zbw zvR fun _=>none:=⟨zsv,fun x h=>(by cases h),fun d h=>(by cases h),fun d h=>(by cases h),fun d x h=>(by cases h),fun d=>⟨fun h=>(by cases h),fun h=>(by cases h)⟩,List.Pairwise.nil,fun d h=>(by cases h)⟩
section
variable {r:zat} {P:Int->Option Op3} {t:Int}
theorem zbw.told(h:zbw r P)(l:List Op3):zbw { r with told:=l } P:=⟨h.ok,h.tab,h.has,h.out,h.pend,h.vict,h.nodup,h.lock⟩
theorem zbw.behind(h:zbw r P)(b:Int->List Op3):zbw { r with behind:=b } P:=⟨h.ok,h.tab,h.has,h.out,h.pend,h.vict,h.nodup,h.lock⟩
theorem zbw.but(h:zbw r P)(hw:r.waits t=false):zep r P t:=⟨h.ok,fun x hx _=>h.tab x hx,h.has,h.out,h.pend,h.vict,h.nodup,h.lock,hw⟩
theorem zbw.idle(h:zbw r P){d:Int}(ho:r.out d=false)(hw:r.waits d=false):P d=none:=by
 cases hp:P d with
 | none=>rfl
 | some x=>have:=(h.pend d x hp ho).1;rw[hw]at this;cases this
theorem zbw.whom_yes(h:zbw r P){d:Int}(hw:r.waits d=true)(hp:P d=none):zaN r.tab d=zyy r.tab (zea (r.op d)):=by
 obtain⟨x,hx,he⟩:=h.has d hw hp;unfold zaN;cases hf:r.tab.2.find? fun y=>y.1 == d with
 | none =>have:=List.find?_eq_none.1 hf x hx;simp[he]at this
 | some y =>
   have hy1:y.1=d:=by simpa using List.find?_some hf
   have hy2:=(h.tab y (List.mem_of_find?_eq_some hf)).2.2;rw[hy1]at hy2;rw[<-hy2]
theorem zbw.whom_no(h:zbw r P){d:Int}(hw:¬(r.waits d=true/\P d=none)):zaN r.tab d=[]:=by
 unfold zaN;cases hf:r.tab.2.find? fun y=>y.1 == d with
 | none=>rfl
 | some y =>
   have hy1:y.1=d:=by simpa using List.find?_some hf
   have hy2:=h.tab y (List.mem_of_find?_eq_some hf);rw[hy1]at hy2;exact absurd ⟨hy2.1,hy2.2.1⟩ hw
end
def zdN(P:Int->Option Op3)(l:List Op3)(d:Int):Option Op3:=match l.find? fun y=>y.1 == d with | some x=>some x | none=>P d
theorem zif{P:Int->Option Op3}{l:List Op3}{d:Int}:zdN P l d=none↔P d=none/\∀y∈l,y.1≠d:=by
 unfold zdN;cases hf:l.find? fun y=>y.1 == d with
 | none =>have h1:=List.find?_eq_none.1 hf;exact⟨fun h=>⟨h,fun y hy e=>h1 y hy (by simp[e])⟩,fun h=>h.1⟩
 | some x =>refine⟨fun h=>(by cases h),fun h=>absurd (by simpa using List.find?_some hf) (h.2 x (List.mem_of_find?_eq_some hf))⟩
theorem addP_some{P:Int->Option Op3}{l:List Op3}{d:Int}{x:Op3}(h:zdN P l d=some x):(x∈l/\x.1=d)\/P d=some x:=by
 unfold zdN at h;cases hf:l.find? fun y=>y.1 == d with
 | none=>rw[hf]at h;exact .inr h
 | some y =>rw[hf]at h;cases h;exact .inl ⟨List.mem_of_find?_eq_some hf,by simpa using List.find?_some hf⟩
theorem zig(P:Int->Option Op3)(x:Op3)(l:List Op3):zdN P (x::l) x.1=some x:=by unfold zdN;simp
theorem zck(P:Int->Option Op3)(x:Op3)(l:List Op3){d:Int}(h:d≠x.1):zdN P (x::l) d=zdN P l d:=by unfold zdN;rw[List.find?_cons_of_neg (by simp;exact Ne.symm h)]
theorem zhg{P:Int->Option Op3}{l:List Op3}{d:Int}(h:∀y∈l,y.1≠d):zdN P l d=P d:=by unfold zdN;rw[List.find?_eq_none.2 fun y hy=>by simp;exact h y hy]
theorem znd:∀(l:List Op3) (s:za3 × List Op3),((grants s l).1.2++(grants s l).2).Perm (s.1.2++s.2++l):=by
 intro l
 induction l with
 | nil=>intro s;simp[grants]
 | cons x r ih =>
   intro s;have h1:=ih (grant s x)
   have h2:((grant s x).1.2++(grant s x).2++r).Perm (s.1.2++s.2++(x::r)):=by
    unfold grant;split
    ·simp only[List.append_assoc,List.singleton_append];exact List.Perm.refl _
    ·simp only[List.append_assoc,List.singleton_append];refine List.Perm.append_left _ ?_;exact List.perm_middle.symm
   exact h1.trans h2
theorem zmk(s:za3)(t:Int):((freeT s t).1.2++(freeT s t).2).Perm (withoutL s.2 t):=by have:=znd (withoutL s.2 t) ((withoutL s.1 t,[]),[]);simpa[freeT]using this
theorem zgq{s:za3}(h:zgu s)(t:Int):((freeT s t).1.2++(freeT s t).2).Pairwise fun a b=>a.1≠b.1 :=((zmk s t).pairwise_iff (fun {_ _} hne=>Ne.symm hne)).2 (h.deals.filter _)
theorem free_mem{s:za3}{t:Int}{x:Op3}(hx:x∈s.2)(hne:x.1≠t):x∈(freeT s t).1.2\/x∈(freeT s t).2:=by have h1:x∈withoutL s.2 t:=List.mem_filter.2 ⟨hx,by simp[hne]⟩;have h2:=(zmk s t).mem_iff.2 h1;rw[List.mem_append]at h2;exact h2
theorem zep.free{r:zat}{P:Int->Option Op3}{t:Int}(h:zep r P t):zbw { r with tab:=(freeT r.tab t).1 } (zdN P (freeT r.tab t).2):=by
 have hap:=zgq h.ok t;rw[List.pairwise_append]at hap;refine⟨zvu h.ok t,fun x hx=>?_,fun d hw hp=>?_,h.out,fun d x hp ho=>?_,h.vict,h.nodup,h.lock⟩
 ·obtain⟨h1,h2⟩:=mem_free.2.1 hx;obtain⟨k1,k2,k3⟩:=h.tab x h1 h2;exact⟨k1,zif.2 ⟨k2,fun y hy e=>hap.2.2 x hx y hy e.symm⟩,k3⟩
 ·obtain⟨h1,h2⟩:=zif.1 hp;obtain⟨x,hx,he⟩:=h.has d hw h1;have hne:x.1≠t:=fun e=>by rw[<-he,e,h.not]at hw;cases hw
  rcases free_mem hx hne with h3 | h3
  ·exact⟨x,h3,he⟩
  ·exact absurd he (h2 x h3)
 ·rcases addP_some hp with⟨h1,h2⟩ | h1
  ·obtain⟨h3,h4⟩:=mem_free.2.2 h1;obtain⟨k1,k2,k3⟩:=h.tab x h3 h4;rw[h2]at k1 k3;exact⟨k1,k3⟩
  ·exact h.pend d x h1 ho
theorem zep.idle{r:zat}{P:Int->Option Op3}{t:Int}(h:zep r P t):∀x∈(freeT r.tab t).2,P x.1=none:=fun x hx=>by obtain⟨h3,h4⟩:=mem_free.2.2 hx;exact(h.tab x h3 h4).2.1
theorem zbw.skip{r:zat}{P:Int->Option Op3}{x:Op3}{l:List Op3}(h:zbw r (zdN P (x::l)))(ho:r.out x.1=true)(hl:∀y∈l,y.1≠x.1)(hp:P x.1=none):zbw r (zdN P l):=by
 have hx:zdN P l x.1=none:=by rw[zhg hl];exact hp
 refine⟨h.ok,fun y hy=>?_,fun d hw hq=>?_,h.out,fun d z hq hz=>?_,h.vict,h.nodup,h.lock⟩
 ·obtain⟨h1,h2,h3⟩:=h.tab y hy;refine⟨h1,?_,h3⟩;by_cases e:y.1=x.1
  ·rw[e];exact hx
  ·rw[zck P x l e]at h2;exact h2
 ·by_cases e:d=x.1
  ·subst e;rw[h.out _ ho]at hw;cases hw
  ·exact h.has d hw (by rw[zck P x l e];exact hq)
 ·by_cases e:d=x.1
  ·subst e;rw[hx]at hq;cases hq
  ·exact h.pend d z (by rw[zck P x l e];exact hq) hz
theorem zbw.got{r:zat}{P:Int->Option Op3}{x:Op3}{l:List Op3}(h:zbw r (zdN P (x::l)))(ho:r.out x.1=false)(hl:∀y∈l,y.1≠x.1)(hp:P x.1=none):r.waits x.1=true/\x=zea (r.op x.1)/\zbw (gotR r x.1) (zdN P l):=by
 have hx:zdN P l x.1=none:=by rw[zhg hl];exact hp
 obtain⟨hw,he⟩:=h.pend x.1 x (zig P x l) ho;refine⟨hw,he,⟨h.ok,fun y hy=>?_,fun d hw2 hq=>?_,fun d hd=>?_,fun d z hq hz=>?_,h.vict,h.nodup,fun d hd=>?_⟩⟩
 ·obtain⟨h1,h2,h3⟩:=h.tab y hy;have e:y.1≠x.1:=fun e=>by rw[e,zig]at h2;cases h2
  rw[zck P x l e]at h2;exact⟨by show setF r.waits x.1 false y.1=true;rw[zaa _ _ e];exact h1,h2,h3⟩
 ·have hw3:setF r.waits x.1 false d=true:=hw2;have e:d≠x.1:=fun e=>by rw[e,setF_same]at hw3;cases hw3
  rw[zaa _ _ e]at hw3;exact h.has d hw3 (by rw[zck P x l e];exact hq)
 ·show setF r.waits x.1 false d=false;by_cases e:d=x.1
  ·rw[e,setF_same]
  ·rw[zaa _ _ e];exact h.out d hd
 ·have e:d≠x.1:=fun e=>by rw[e,hx]at hq;cases hq
  obtain⟨k1,k2⟩:=h.pend d z (by rw[zck P x l e];exact hq) hz;exact⟨by show setF r.waits x.1 false d=true;rw[zaa _ _ e];exact k1,k2⟩
 ·have hw3:setF r.waits x.1 false d=true:=hd;have e:d≠x.1:=fun e=>by rw[e,setF_same]at hw3;cases hw3
  rw[zaa _ _ e]at hw3;exact h.lock d hw3
def zfr(doF:zat->Op3->zat):Prop:=∀r o P,zb5 r->zbw r P->r.out o.1=false->r.waits o.1=false->isOpB o=true->zbw (doF r o) P
theorem zi9{doF:zat->Op3->zat}(hO:zky doF)(hF:zfr doF){P:Int->Option Op3}(d:Int)(h1:1<=d)(h6:d<=6):∀(m:Nat) (r:zat),zb5 r->zbw r P->zbw (drainN doF d m r) P:=by
 intro m
 induction m with
 | zero=>intro r _ h;exact h
 | succ m ih =>
   intro r hg h;unfold drainN;split
   ·exact h
   ·rename_i hw;split
    ·exact h
    ·rename_i o q hb;obtain⟨p1,p2,p3,p4,p5,p6⟩:=zpk hg h1 h6 hb;have hw':r.waits d=false:=by simpa using hw
     have ho:(zf9 r d q).out o.1=false:=by rw[p4];exact p6
     have hw2:(zf9 r d q).waits o.1=false:=by rw[p4];exact hw'
     have hs:=hO (zf9 r d q) o p1 ho hw2 p5;exact ih _ hs.good (hF (zf9 r d q) o P p1 (h.behind _) ho hw2 p5)
theorem znX{doF:zat->Op3->zat}(hO:zky doF)(hF:zfr doF){P:Int->Option Op3}:∀(l:List Op3) (r:zat),zb5 r->zbw r (zdN P l)->(l.Pairwise fun a b=>a.1≠b.1)->(∀x∈l,P x.1=none)->zbw (l.foldl (zbR doF) r) P:=by
 intro l
 induction l with
 | nil=>intro r _ h _ _;exact h
 | cons x l ih =>
   intro r hg h hp hn;rw[List.pairwise_cons]at hp;have hl:∀y∈l,y.1≠x.1:=fun y hy e=>hp.1 y hy e.symm;have hg1:=(zpQ hO x r hg).good;refine ih (zbR doF r x) hg1 ?_ hp.2 fun y hy=>hn y (List.mem_cons_of_mem _ hy);cases ho:r.out x.1 with
   | true=>rw[zlJ (h.out _ ho)];exact h.skip ho hl (hn x List.mem_cons_self)
   | false =>obtain⟨k1,k2,k3⟩:=h.got ho hl (hn x List.mem_cons_self);rw[zi8 k1];have hr:=hg.wait x.1 k1;exact zi9 hO hF x.1 hr.1 hr.2 _ _ (zyo hg k1).1 k3
theorem zmc{doF:zat->Op3->zat}(hO:zky doF)(hF:zfr doF){P:Int->Option Op3}{r:zat}{t:Int}(hg:zb5 { r with tab:=(freeT r.tab t).1 })(h:zep r P t):zbw (zgk doF r t) P:=by have hap:=zgq h.ok t;rw[List.pairwise_append]at hap;exact znX hO hF _ _ hg h.free hap.2.1 h.idle
theorem zbw.abort{r:zat}{P:Int->Option Op3}{t:Int}(h:zbw r P)(ho:r.out t=false):zep (abort0 r t) P t:=by
 have hv:t ∉ r.vict:=fun hm=>by rw[(h.vict t).2 hm]at ho;cases ho
 refine⟨h.ok,fun x hx hne=>?_,fun d hw hp=>?_,fun d hd=>?_,fun d x hp hq=>?_,fun d=>?_,?_,fun d hw=>?_,setF_same _ _ _⟩
 ·obtain⟨k1,k2,k3⟩:=h.tab x hx;exact⟨by show setF r.waits t false x.1=true;rw[zaa _ _ hne];exact k1,k2,k3⟩
 ·have hw3:setF r.waits t false d=true:=hw;have e:d≠t:=fun e=>by rw[e,setF_same]at hw3;cases hw3
  rw[zaa _ _ e]at hw3;exact h.has d hw3 hp
 ·show setF r.waits t false d=false;by_cases e:d=t
  ·rw[e,setF_same]
  ·have hd2:setF r.out t true d=true:=hd;rw[zaa _ _ e]at hd2 ⊢;exact h.out d hd2
 ·have hq2:setF r.out t true d=false:=hq;have e:d≠t:=fun e=>by rw[e,setF_same]at hq2;cases hq2
  rw[zaa _ _ e]at hq2;obtain⟨k1,k2⟩:=h.pend d x hp hq2;exact⟨by show setF r.waits t false d=true;rw[zaa _ _ e];exact k1,k2⟩
 ·show setF r.out t true d=true↔d∈r.vict++[t];rw[List.mem_append,List.mem_singleton];by_cases e:d=t
  ·rw[e,setF_same];exact⟨fun _=>.inr rfl,fun _=>rfl⟩
  ·rw[zaa _ _ e,h.vict d];exact⟨.inl,fun h=>h.elim id fun e2=>absurd e2 e⟩
 ·show(r.vict++[t]).Pairwise _;rw[List.pairwise_append];refine⟨h.nodup,List.pairwise_singleton _ _,fun a ha b hb e=>hv ?_⟩;rw[List.mem_singleton]at hb;rw[<-hb,<-e];exact ha
 ·have hw3:setF r.waits t false d=true:=hw;have e:d≠t:=fun e=>by rw[e,setF_same]at hw3;cases hw3
  rw[zaa _ _ e]at hw3;exact h.lock d hw3
theorem zeO{doF:zat->Op3->zat}(hO:zky doF)(hF:zfr doF){P:Int->Option Op3}{r:zat}{t:Int}(hg:zb5 r)(h:zbw r P)(h1:1<=t)(h6:t<=6)(ho:r.out t=false):zbw (zco doF r t) P :=zmc hO hF (zgt hg h1 h6 ho) (h.abort ho)
theorem zrX{doF:zat->Op3->zat}(hO:zky doF)(hF:zfr doF){P:Int->Option Op3}(t:Int):∀(n:Nat) (r:zat),zb5 r->zbw r P->zbw (woundN doF t n r) P:=by
 intro n
 induction n with
 | zero=>intro r _ h;exact h
 | succ n ih =>
   intro r hg h;unfold woundN;split
   ·exact h
   ·rename_i v hv;obtain⟨k1,k2,k3⟩:=zdU hg (ziG hv).1;exact ih _ (zf4 hO hg k2 k3 k1).1.good (zeO hO hF hg h k2 k3 k1)
theorem zw3{doF:zat->Op3->zat}(hO:zky doF)(hF:zfr doF){P:Int->Option Op3}(way t:Int)(r:zat)(hg:zb5 r)(h:zbw r P)(h1:1<=t)(h6:t<=6)(ho:r.out t=false):zbw (zlN way doF r t) P:=by
 unfold zlN;split
 ·split
  ·exact zeO hO hF hg h h1 h6 ho
  ·exact h
 ·split
  ·split
   ·exact h
   ·split
    ·exact zeO hO hF hg h h1 h6 ho
    ·exact h
  ·exact zrX hO hF t 7 r hg h
theorem ask_new{s:za3}{x:Op3}(hl:zak x=true)(hw:waitsB s.2 x.1=false):((askT s x).1.1=true/\(askT s x).2.2=s.2/\(askT s x).1.2=0)\/askT s x=((false,0),(s.1,s.2++[x])):=by
 unfold askT;rw[if_neg (by rw[hl];decide),if_neg (by rw[hw];decide)];split
 ·exact .inl ⟨rfl,rfl,rfl⟩
 ·split
  ·exact .inl ⟨rfl,rfl,rfl⟩
  ·exact .inr rfl
theorem zui{o:Op3}(h:isOpB o=true)(ha:¬3<=o.2.1):zak (zea o)=true:=by
 have he:zaM o.2.1=false:=by unfold zaM;simp;omega
 simp[isOpB,he]at h;unfold zea zak;simp;omega
theorem zbw.calm{r:zat}{P:Int->Option Op3}(h:zbw r P){d:Int}(hw:r.waits d=false):waitsB r.tab.2 d=false:=by
 cases hb:waitsB r.tab.2 d with
 | false=>rfl
 | true =>obtain⟨y,hy,he⟩:=List.any_eq_true.1 hb;have:=(h.tab y hy).1;rw[show y.1=d by simpa using he,hw]at this;cases this
theorem zbw.held{r:zat}{P:Int->Option Op3}{s:za3}(h:zbw r P)(hok:zgu s)(he:s.2=r.tab.2):zbw { r with tab:=s } P :=⟨hok,fun x hx=>h.tab x (he ▸hx),fun d hw hp=>by show ∃x∈s.2,_;rw[he];exact h.has d hw hp,h.out,h.pend,h.vict,h.nodup,h.lock⟩
theorem zbw.wait{r:zat}{P:Int->Option Op3}{o:Op3}(h:zbw r P)(ho:r.out o.1=false)(hw:r.waits o.1=false)(hl:zak (zea o)=true)(hask:askT r.tab (zea o)=((false,0),(r.tab.1,r.tab.2++[zea o]))):zbw (zc4 r o) P:=by
 have hask':askT r.tab (o.1,o.2.2,o.2.1)=((false,0),(r.tab.1,r.tab.2++[zea o])):=hask;have hP:=h.idle ho hw;have hold:∀x∈r.tab.2,x.1≠o.1:=fun x hx e=>by have:=(h.tab x hx).1;rw[e,hw]at this;cases this
 have hk:=zsJ h.ok (zea o);have e2:(zc4 r o).tab.2=r.tab.2++[zea o]:=by show(askT r.tab (o.1,o.2.2,o.2.1)).2.2=_;rw[hask']
 refine⟨hk,fun x hx=>?_,fun d hd hp=>?_,fun d hd=>?_,fun d x hp hq=>?_,h.vict,h.nodup,fun d hd=>?_⟩
 ·rw[e2,List.mem_append,List.mem_singleton]at hx;show setF r.waits o.1 true x.1=true/\_/\x=zea (setF r.op o.1 o x.1);rcases hx with hx | rfl
  ·rw[zaa _ _ (hold x hx),zaa _ _ (hold x hx)];exact h.tab x hx
  ·exact⟨setF_same _ _ _,hP,by show zea o=zea (setF r.op o.1 o o.1);rw[setF_same]⟩
 ·rw[e2];by_cases e:d=o.1
  ·exact⟨zea o,List.mem_append_right _ List.mem_cons_self,e.symm⟩
  ·have hd2:setF r.waits o.1 true d=true:=hd;rw[zaa _ _ e]at hd2;obtain⟨x,hx,he⟩:=h.has d hd2 hp;exact⟨x,List.mem_append_left _ hx,he⟩
 ·have e:d≠o.1:=fun e=>by have hd2:r.out d=true:=hd;rw[e,ho]at hd2;cases hd2
  show setF r.waits o.1 true d=false;rw[zaa _ _ e];exact h.out d hd
 ·have e:d≠o.1:=fun e=>by rw[e,hP]at hp;cases hp
  show setF r.waits o.1 true d=true/\x=zea (setF r.op o.1 o d);rw[zaa _ _ e,zaa _ _ e];exact h.pend d x hp hq
 ·show zak (zea (setF r.op o.1 o d))=true/\(setF r.op o.1 o d).1=d;by_cases e:d=o.1
  ·rw[e,setF_same];exact⟨hl,rfl⟩
  ·have hd2:setF r.waits o.1 true d=true:=hd;rw[zaa _ _ e]at hd2 ⊢;exact h.lock d hd2
theorem zx8{doF:zat->Op3->zat}(hO:zky doF)(hF:zfr doF)(way:Int):zfr (doW way doF):=by
 intro r o P hg h ho hw hop;unfold doW;split
 ·exact zmc hO hF (zfy (zho hg o).1 o.1) ((h.told _).but hw)
 ·rename_i ha;have hl:=zui hop ha;rcases ask_new (s:=r.tab) (x:=zea o) hl (h.calm hw)with⟨h1,h2,-⟩ | h1
  ·have h1':(askT r.tab (o.1,o.2.2,o.2.1)).1.1=true:=h1;rw[if_pos h1'];exact(h.held (zsJ h.ok (zea o)) h2).told _
  ·have h1':(askT r.tab (o.1,o.2.2,o.2.1))=((false,0),(r.tab.1,r.tab.2++[zea o])):=h1;rw[if_neg (by rw[h1'];simp)];obtain⟨a1,a6⟩:=za1 hop;exact zw3 hO hF way o.1 _ (zvC hg ho hw a1 a6).1 (h.wait ho hw hl h1) a1 a6 ho
theorem zhh(way:Int):∀n,zfr (doN way n):=by
 intro n
 induction n with
 | zero=>intro r o P _ h _ _ _;exact h
 | succ n ih=>exact zx8 (zhR way n) ih way
theorem ztf(way:Int){r:zat}{P:Int->Option Op3}{o:Op3}(hg:zb5 r)(h:zbw r P)(hop:isOpB o=true):zbw (zc5 way r o) P:=by
 unfold zc5;split
 ·exact h
 ·rename_i ho;split
  ·exact h.behind _
  ·rename_i hw;exact zhh way 41 r o P hg h (by simpa using ho) (by simpa using hw) hop
theorem zmU(way:Int)(l:List Op3)(hop:∀o∈l,isOpB o=true):∀k,k<=l.length->zbw (zaI way (l.take k)) fun _=>none:=by
 intro k
 induction k with
 | zero=>intro _;exact fits0
 | succ k ih =>
   intro hk;have e:zaI way (l.take (k+1))=zc5 way (zaI way (l.take k)) l[k]:=by unfold zaI;rw[List.take_succ_eq_append_getElem (by omega),List.foldl_append];rfl
   rw[e];exact ztf way (zf7 way l hop k (by omega)).1 (ih (by omega)) (hop _ (List.getElem_mem (show k<l.length by omega)))
theorem zzL{α:Type}(a b:α)(t:Int):∀ {l:List Int},l.Pairwise (· < ·)->(match l with | []=>b | x::_=>if x<t then a else b)=if(l.any fun x=>decide (x<t))=true then a else b:=by
 intro l h;cases l with
 | nil=>rfl
 | cons x q =>
   rw[List.pairwise_cons]at h
   have e:((x::q).any fun x=>decide (x<t))=decide (x<t):=by
    show(decide (x<t) || q.any fun x=>decide (x<t))=decide (x<t);by_cases hx:x<t
    ·simp[hx]
    ·simp only[hx,decide_false,Bool.false_or,List.any_eq_false,decide_eq_true_eq];intro y hy;have:=h.1 y hy;omega
   rw[e];simp only[decide_eq_true_eq]
end Go.Proofs.YthlhgiihngcobaaGreatDoor
