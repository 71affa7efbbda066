/-
  PROVED HERE: a map that tells where each deal stands among those that were aborted; laneref1.LockOdds, Lock, clear0 and without answer as the plain functions on lists of locks say; append on a row of one's own, and where the row lies then; laneref1.Table's methods Waiting and hold, over a table in memory.
  Conditions: none but those that each theorem's own premises say.
-/
import Derived.Test.YthlhgiihngcobaaGreatDoorMgbg
import Derived.Test.YthlhgiihngcobaaGreatDoorMgah
import Derived.Test.YthlhgiihngcobaaGreatDoorMgam
import Derived.Test.YthlhgiihngcobaaGreatDoorMgaf
import Derived.Test.YthlhgiihngcobaaGreatDoorMgag
import Derived.Test.YthlhgiihngcobaaGreatDoorMgaj
import Derived.OwnWalk
import Derived.Deep.Cut
import Derived.Maps.AppendAt
import Derived.WalkKit
import Derived.WalkSpells
import Derived.Handy
import Derived.Deep.RegionLaw
import Derived.Laws.AppendOwn
import Derived.ArgAppend
set_option maxHeartbeats 32000000
set_option maxRecDepth 100000
namespace Go.Proofs.YthlhgiihngcobaaGreatDoor
open Go.RowKit
open Go.Maps (Keyed)
def posL:List Int->Int->Option Nat
 | [],_=>none
 | x::r,t=>if x=t then some 0 else(posL r t).map (· + 1)
def zbt(l:List Int)(t:Int):Option Value:=(posL l t).map fun(k:Nat)=>Value.int .i64 (k:Int)
theorem zmA:∀(l:List Int) (t:Int),(posL l t).isSome=true↔t∈l:=by
 intro l t
 induction l with
 | nil=>simp[posL]
 | cons x r ih =>
   unfold posL;by_cases e:x=t
   ·simp[e]
   ·rw[if_neg e];simp only[Option.isSome_map,List.mem_cons];rw[ih];constructor
    ·exact .inr
    ·rintro(h | h)
     ·exact absurd h.symm e
     ·exact h
theorem zAz:∀ {l:List Int} {t:Int} {k:Nat},posL l t=some k->l[k]? = some t:=by
 intro l
 induction l with
 | nil=>intro t k h;cases h
 | cons x r ih =>
   intro t k h;unfold posL at h;split at h
   ·rename_i e;cases h;simp[e]
   ·cases hr:posL r t with
    | none=>rw[hr]at h;cases h
    | some j =>rw[hr]at h;cases h;simpa using ih hr
theorem zsl:∀ {l:List Int} {t:Int},t ∉ l->∀y,posL (l++[t]) y=setF (posL l) t (some l.length) y:=by
 intro l t
 induction l with
 | nil =>
   intro _ y;unfold setF;by_cases e:y=t
   ·simp[posL,e]
   ·simp[posL,e,Ne.symm e]
 | cons x r ih =>
   intro h y;rw[List.mem_cons,not_or]at h;have h2:=ih h.2 y;show posL (x::(r++[t])) y=_;unfold setF at h2 ⊢;unfold posL;by_cases e:y=t
   ·subst e;rw[if_pos rfl]at h2 ⊢;rw[if_neg (Ne.symm h.1),h2];rfl
   ·rw[if_neg e]at h2 ⊢;rw[h2]
theorem zb8(l:List Int)(t:Int):(zbt l t).isSome=decide (t∈l):=by
 have h1:(zbt l t).isSome=(posL l t).isSome:=Option.isSome_map;rw[h1];by_cases h:t∈l
 ·rw[decide_eq_true h];exact(zmA l t).2 h
 ·rw[decide_eq_false h];cases hp:(posL l t).isSome with
  | false=>rfl
  | true=>exact absurd ((zmA l t).1 hp) h
theorem ziY{l:List Int}{t:Int}(h:t ∉ l)(y:Int):zbt (l++[t]) y=setF (zbt l) t (some (.int .i64 (l.length:Int))) y:=by unfold zbt;rw[zsl h];unfold setF;split <;> rfl
def zcI(w:World)(S m:Nat)(vs:Nat->Int):Prop:=∀j,j<m->w.cell? ⟨S,j,none⟩=some (.int .i64 (vs j))/\w.frozen? ⟨S,j,none⟩=false
theorem zcI.set{w:World}{S m:Nat}{vs:Nat->Int}(h:zcI w S m vs){k:Nat}(hk:k<m)(x:Int):zcI (w.setCell ⟨S,k,none⟩ (.int .i64 x)) S m (fun j=>if j=k then x else vs j):=fun j hj=>by
 obtain⟨hc,hf⟩:=h j hj;constructor
 ·show _=some (Value.int .i64 (if j=k then x else vs j));by_cases e:j=k
  ·subst e;rw[World.cell?_setCell_same _ _ _ hc,if_pos rfl]
  ·rw[World.cell?_setCell_other _ _ _ _ (by intro he;injection he with _ he2 _;exact e he2.symm),hc,if_neg e]
 ·simpa using hf
theorem zi6{w:World}{base g m:Nat}{xs:List Value}(h:w.ownsRow base 3 1 (.slice (some ⟨g,0,none⟩) m m) m xs)(hxs:xs=List.replicate m (Value.int .i64 0)):zcI w g m fun _=>0:=by
 subst hxs;obtain⟨_,⟨hv,_⟩ | ⟨g',cap,cur,hv,_,hg,_,_,hsz,htk⟩⟩:=h
 ·cases hv
 ·simp only[Value.slice.injEq,Option.some.injEq,Addr.mk.injEq,and_true,true_and]at hv;obtain⟨rfl,rfl⟩:=hv;intro j hj;refine⟨?_,by simp[World.frozen?,hg]⟩;rw[cell_of_row w g j cur _ _ hg];have h1:(cur.toList.take (m*1))[j]? = some (Value.int .i64 0):=by rw[htk,List.getElem?_replicate,if_pos hj]
  rw[List.getElem?_take,if_pos (by omega),Array.getElem?_toList]at h1;exact h1
theorem zcI.turn{w w1:World}{S m:Nat}{vs:Nat->Int}{F:Nat->Prop}(h:zcI w S m vs)(ht:zac F w w1)(hS:S<w.heap.size)(hF:¬F S):zcI w1 S m vs:=fun j hj =>⟨(ht.cell (p:=⟨S,j,none⟩) hS hF).trans (h j hj).1,(World.frozen?_of_block (a:=⟨S,j,none⟩) (ht.block S hS hF)).trans (h j hj).2⟩
theorem zcI.ints{w:World}{S:Nat}{vs:Nat->Int}{l:List Int}(h:zcI w S l.length vs)(hS:S<w.heap.size)(he:∀j,j<l.length->vs j=l.getD j 0):zaf w (.slice (some ⟨S,0,none⟩) l.length l.length) l :=⟨some ⟨S,0,none⟩,S,0,l.length,rfl,fun _=>rfl,fun h=>(by cases h),.inl hS,fun i hi=>by rw[Nat.zero_add,(h i hi).1,he i hi]⟩
theorem zgQ(w:World){ops:Array Oper}{rest:List Oper}{o:Oper}{a:Act}{Q:Exit->Act->World->Prop}(hg:o.guard=none)(it:Operand)(hop:o.op=Op.next it false)(b r n:Nat)(D:DataW Value)(left:Lit->Bool)(cnt:Nat)(l:List Int)
  (hit:a.eval it=.pointer (some ⟨r,0,none⟩)) (h:w.ranges Tryz.prog 3 zaO b r n D left cnt) (hh:∀x,Wf x->Maps.has D (.int .i64 x)=(zbt l x).isSome) (hat:∀x v,Wf x->zbt l x=some v->∀z,D.atKey (.int .i64 x) z=.held v)
  (hDone:cnt=0->(∀kl,left kl=false)->wpList Tryz.prog ops Q rest (a.put o.dst (.tuple #[.bool false])) w)
  (hMore:∀(x:Int) (k:Nat) (w':World) (cnt':Nat),l[k]? = some x->w'.ranges Tryz.prog 3 zaO b r n D (fun z=>left z && !z.sameKey (.int .i64 x)) cnt'->cnt'<cnt ->
   w.grownBy w' (some r)->w'.heap.size=w.heap.size->(Instr.entry (.pointer (some ⟨r,0,none⟩))).run Tryz.prog w'=.ok (.tuple #[.int .i64 x,.int .i64 (k:Int)]) w'->wpList Tryz.prog ops Q rest (a.put o.dst (.tuple #[.bool true,.int .i64 x,.int .i64 (k:Int)])) w') :
  wpList Tryz.prog ops Q (o::rest) a w:=by
 refine wpList_next_ranges (α:=Int) (β:=Value) w hg it hop 3 KI zaO (Value.int .i64) id (fun key kl hkey=>by obtain⟨x,rfl,_⟩:=Maps.keyOf_int_inv Tryz.underlying3 hkey;exact⟨x,rfl⟩) (fun v y _=>⟨v,rfl⟩) b r n D left cnt hit h hDone ?_;intro x c kl y w' cnt' hkey hlk hv hat2 hrg hlt hgr hsz hen;obtain⟨x',ex,rfl,hwx⟩:=Maps.keyOf_int_inv Tryz.underlying3 hkey;cases ex;have hy:y.1=.held c:=by simp only[zaO,id,Option.some.injEq]at hv;rw[<-hv]
 have hhas:=Maps.has_true_of_atKey hat2;rw[hh x hwx]at hhas;obtain⟨u,hu⟩:=Option.isSome_iff_exists.1 hhas;have hc:c=u:=by have h1:=hat2 (.held c);rw[hat x u hwx hu,hy]at h1;exact(DataW.held.inj h1).symm
 unfold zbt at hu;cases hp:posL l x with
 | none=>rw[hp]at hu;cases hu
 | some k =>rw[hp]at hu;have hu':u=.int .i64 (k:Int):=(Option.some.inj hu).symm;subst hc;rw[hu']at hen ⊢;exact hMore x k w' cnt' (zAz hp) hrg hlt hgr hsz hen
theorem nodupI_at{l:List Int}(h:l.Pairwise (·≠·)){i j:Nat}{x:Int}(hi:l[i]? = some x)(hj:l[j]? = some x):i=j:=by
 rcases Nat.lt_trichotomy i j with h1 | h1 | h1
 ·obtain⟨a1,a2⟩:=List.getElem?_eq_some_iff.1 hi;obtain⟨b1,b2⟩:=List.getElem?_eq_some_iff.1 hj;exact absurd (a2.trans b2.symm) (List.pairwise_iff_getElem.1 h i j a1 b1 h1)
 ·exact h1
 ·obtain⟨a1,a2⟩:=List.getElem?_eq_some_iff.1 hi;obtain⟨b1,b2⟩:=List.getElem?_eq_some_iff.1 hj;exact absurd (b2.trans a2.symm) (List.pairwise_iff_getElem.1 h j i b1 a1 h1)
theorem zmy(m:Nat):(madeCells (Value.int .i64 0).cells (m*1)).toList=List.replicate m (Value.int .i64 0):=by
 refine List.ext_getElem? fun j=>?_;by_cases hj:j<m
 ·simp[madeCells,Value.cells,Nat.mod_one,hj]
 ·simp[madeCells,Value.cells,Nat.mod_one,hj]
def zwk(l:List Int)(left:Lit->Bool)(vs:Nat->Int):Prop:=∀j,j<l.length->left (.int .i64 (l.getD j 0))=false->vs j=l.getD j 0
theorem zwk.step{l:List Int}{left:Lit->Bool}{vs:Nat->Int}(h:zwk l left vs)(hn:l.Pairwise (·≠·)){k:Nat}{x:Int}(hk:l[k]? = some x):zwk l (fun z=>left z && !z.sameKey (.int .i64 x)) fun j=>if j=k then x else vs j:=by
 intro j hj hl;have hjd:l[j]? = some (l.getD j 0):=by simp[List.getD,hj]
 show(if j=k then x else vs j)=_;have hl:(left (.int .i64 (l.getD j 0)) && !(Lit.int .i64 (l.getD j 0)).sameKey (.int .i64 x))=false:=hl;by_cases e:j=k
 ·subst e;rw[if_pos rfl];rw[hk]at hjd;exact Option.some.inj hjd
 ·rw[if_neg e];cases hs:(Lit.int .i64 (l.getD j 0)).sameKey (.int .i64 x)with
  | true =>have h1:=WideAt.sameKey_eq hs;injection h1 with _ h2;rw[h2]at hjd;exact absurd (nodupI_at hn hjd hk) e
  | false =>rw[hs]at hl;exact h j hj (by simpa using hl)
end Go.Proofs.YthlhgiihngcobaaGreatDoor
namespace Go.Proofs.YthlhgiihngcobaaGreatDoor
open Go.RowKit
theorem zkm:(Tryz.prog.info? 269).map (fun i=>(i.zero,i.size,i.bytes))=some (some (.agg #[.int .i64 0,.int .i64 0,.int .i64 0]),3,24):=by kernel_rfl
abbrev lkV(x:Op3):Value:=.agg #[.int .i64 x.1,.int .i64 x.2.1,.int .i64 x.2.2]
theorem zeF(w:World)(x:Op3)(t:TypeId):∀j u,(flat [x])[j]? = some u->(w.alloc (.cells #[.int .i64 x.1,.int .i64 x.2.1,.int .i64 x.2.2] t)).cell? ((⟨w.heap.size,0,none⟩:Addr).add j)=some u:=by
 intro j u hj;rw[Addr.add_lit];have hj3:j<3:=by simpa[flat]using (List.getElem?_eq_some_iff.1 hj).1
 rcases(show j=0\/j=1\/j=2 by omega)with rfl | rfl | rfl
 all_goals
  simp[flat]at hj;subst hj;simp
end Go.Proofs.YthlhgiihngcobaaGreatDoor
namespace Go.Proofs.YthlhgiihngcobaaGreatDoor
open Go.RowKit
theorem zpb{w:World}{base base2 e size n:Nat}{v:Value}{xs:List Value}(h:w.ownsRow base e size v n xs)(hb:base2<=base):w.ownsRow base2 e size v n xs:=by
 obtain⟨hl,hd | ⟨g,cap,cur,hv,hbg,hg,hn,hm,hsz,htk⟩⟩:=h
 ·exact⟨hl,.inl hd⟩
 ·exact⟨hl,.inr ⟨g,cap,cur,hv,Nat.le_trans hb hbg,hg,hn,hm,hsz,htk⟩⟩
theorem zg5{P:Program}(w:World)(base:Nat)(t ty e:TypeId)(i:TypeInfo)(z:Value)(size bytes:Nat)(ht:P.underlying t=some (.slice e))(hi:P.info? e=some i)(hz:i.zero=some z)
  (hsize:i.size=size) (hby:i.bytes=bytes) (hzs:z.cells.size=size) (hsz:0<size)
  (v:Value) (n:Nat) (xs:List Value) (hown:w.ownsRow base e size v n xs)
  (a:Addr) (m c:Nat) (news:List Value) (hl:news.length=m*size) (hnews:∀j u,news[j]? = some u->w.cell? (a.add j)=some u) (h1:∀u∈news,u.oneCell'=true)
  (h63:n+m<=maxLen) (hbytes:(n+m)*bytes<=140737488355328) (hbase:base<=w.heap.size) :
  ∃ v' w',(Builtin.append_ #[t,t] ty #[v,.slice (some a) m c]).run P w=.ok v' w'/\w'.ownsRow base e size v' (n+m) (xs++news)/\w.grownBy w' v.ownBlock /\
    ∀g,v'.ownBlock=some g->v.ownBlock=some g\/w.heap.size<=g:=by
 have hown':=hown;rcases hown.2 with⟨rfl,rfl⟩ | ⟨g,cap,cur,rfl,hbg,hg,hnc,hcm,hcs,htake⟩
 ·have hx:xs=[]:=List.eq_nil_of_length_eq_zero (by simpa using hown.1);subst hx;obtain⟨v',w',hr,ho,hgr,-⟩:=run_append_own (P:=P) w w.heap.size t ty e i z size bytes ht hi hz hsize hby hzs hsz (.slice none 0 0) 0 [] (World.ownsRow_nil w _ e size) a m c news hl hnews h1 h63 hbytes (Nat.le_refl _);exact⟨v',w',hr,zpb ho hbase,hgr,fun g hg=>.inr (ho.lt g hg).1⟩
 ·by_cases hroom:n+m<=cap
  ·obtain⟨v',w',hr,ho,hgr,-⟩:=run_append_own (P:=P) w base t ty e i z size bytes ht hi hz hsize hby hzs hsz (.slice (some ⟨g,0,none⟩) n cap) n xs hown' a m c news hl hnews h1 h63 hbytes hbase;subst hsize;have hfit:n*i.size+news.length<=cur.size:=by rw[hl,hcs,<-Nat.add_mul];exact Nat.mul_le_mul_right _ hroom
   have hr2:=run_append_room (P:=P) w t ty e i ht hi g n cap cur hg a m c news hl hnews h1 hroom hfit;rw[hr2]at hr;injection hr with e1 e2;subst e1;exact⟨_,w',by rw[hr2,e2],ho,hgr,fun q hq=>.inl (by simpa[Value.ownBlock]using hq)⟩
  ·obtain⟨v',w',hr,ho,hgr⟩:=run_append_arg_grows (P:=P) w t ty e i z size bytes ht hi hz hsize hby hzs hsz ⟨g,0,none⟩ n cap xs hown.1 (hown.cells (g:=g) rfl) a m c news hl hnews (by omega) h63 hbytes;exact⟨v',w',hr,zpb ho hbase,⟨hgr.os,hgr.tape,hgr.output,hgr.size,fun k hk _=>hgr.block k hk (by simp)⟩,fun q hq=>.inr (ho.lt q hq).1⟩
theorem zcB{P:Program}{o:Oper}{a:Act}(w:World){K:Act->World->Prop}{Q:Exit->Act->World->Prop}(s x:Operand)(t:TypeId)
  (ho:o.op=.call { callee:=.builtin .append,args:=#[s,x],argTypes:=#[t,t] })
  (base:Nat) (e:TypeId) (i:TypeInfo) (z:Value) (size bytes:Nat) (ht:P.underlying t=some (.slice e)) (hi:P.info? e=some i) (hz:i.zero=some z)
  (hsize:i.size=size) (hby:i.bytes=bytes) (hzs:z.cells.size=size) (hsz:0<size)
  (v:Value) (n:Nat) (xs:List Value) (hs:a.eval s=v) (hown:w.ownsRow base e size v n xs)
  (ad:Addr) (m c:Nat) (news:List Value) (hx:a.eval x=.slice (some ad) m c) (hl:news.length=m*size) (hnews:∀j u,news[j]? = some u->w.cell? (ad.add j)=some u) (h1:∀u∈news,u.oneCell'=true)
  (h63:n+m<=maxLen) (hbytes:(n+m)*bytes<=140737488355328) (hbase:base<=w.heap.size)
  (h:∀v' w',w'.ownsRow base e size v' (n+m) (xs++news)->w.grownBy w' v.ownBlock->(∀g,v'.ownBlock=some g->v.ownBlock=some g\/w.heap.size<=g)->K (a.put o.dst v') w'):o.wp P a w K Q:=by
 obtain⟨v',w',hr,h2,h3,h4⟩:=zg5 (P:=P) w base t o.type e i z size bytes ht hi hz hsize hby hzs hsz v n xs hown ad m c news hl hnews h1 h63 hbytes hbase;unfold Oper.wp execOp;simp only[ho,resolve,invoke,builtin,Sem.run_bind,Sem.run_pure,Result.andThen_ok,List.map_toArray,List.map_cons,List.map_nil,hs,hx,hr];exact h v' w' h2 h3 h4
theorem zaB{P:Program}{ops:Array Oper}{o:Oper}{a:Act}{w:World}{K:Act->World->Prop}{Q:Exit->Act->World->Prop}{E:Prop}
  (hgd:o.guard=none) (s x:Operand) (t:TypeId) (ho:o.op=.call { callee:=.builtin .append,args:=#[s,x],argTypes:=#[t,t] })
  (base:Nat) (e:TypeId) (i:TypeInfo) (z:Value) (size bytes:Nat) (ht:P.underlying t=some (.slice e)) (hi:P.info? e=some i) (hz:i.zero=some z)
  (hsize:i.size=size) (hby:i.bytes=bytes) (hzs:z.cells.size=size) (hsz:0<size)
  (v:Value) (n:Nat) (xs:List Value) (hs:a.eval s=v) (hown:w.ownsRow base e size v n xs)
  (ad:Addr) (m c:Nat) (news:List Value) (hx:a.eval x=.slice (some ad) m c) (hl:news.length=m*size) (hnews:∀j u,news[j]? = some u->w.cell? (ad.add j)=some u) (h1:∀u∈news,u.oneCell'=true)
  (h63:n+m<=maxLen) (hbytes:(n+m)*bytes<=140737488355328) (hbase:base<=w.heap.size)
  (h:∀v' w',w'.ownsRow base e size v' (n+m) (xs++news)->w.grownBy w' v.ownBlock->(∀g,v'.ownBlock=some g->v.ownBlock=some g\/w.heap.size<=g)->K (a.put o.dst v') w') :
  if Region.wanted o (yielded ops a.tmps)=true then Oper.wp P o a w K Q else E:=by
 have hw:Region.wanted o (yielded ops a.tmps)=true:=by simp[Region.wanted,hgd]
 rw[if_pos hw];exact zcB w s x t ho base e i z size bytes ht hi hz hsize hby hzs hsz v n xs hs hown ad m c news hx hl hnews h1 h63 hbytes hbase h
theorem zbj{P:Program}(w:World){ops:Array Oper}{rest:List Oper}{o:Oper}{a:Act}{Q:Exit->Act->World->Prop}(hgd:o.guard=none)(s x:Operand)(t:TypeId)
  (ho:o.op=.call { callee:=.builtin .append,args:=#[s,x],argTypes:=#[t,t] })
  (base:Nat) (e:TypeId) (i:TypeInfo) (z:Value) (size bytes:Nat) (ht:P.underlying t=some (.slice e)) (hi:P.info? e=some i) (hz:i.zero=some z)
  (hsize:i.size=size) (hby:i.bytes=bytes) (hzs:z.cells.size=size) (hsz:0<size)
  (v:Value) (n:Nat) (xs:List Value) (hs:a.eval s=v) (hown:w.ownsRow base e size v n xs)
  (ad:Addr) (m c:Nat) (news:List Value) (hx:a.eval x=.slice (some ad) m c) (hl:news.length=m*size) (hnews:∀j u,news[j]? = some u->w.cell? (ad.add j)=some u) (h1:∀u∈news,u.oneCell'=true)
  (h63:n+m<=maxLen) (hbytes:(n+m)*bytes<=140737488355328) (hbase:base<=w.heap.size)
  (h:∀v' w',w'.ownsRow base e size v' (n+m) (xs++news)->w.grownBy w' v.ownBlock->(∀g,v'.ownBlock=some g->v.ownBlock=some g\/w.heap.size<=g)->wpList P ops Q rest (a.put o.dst v') w'):wpList P ops Q (o::rest) a w :=
 wpList_plain hgd fun _ hK=>zcB w s x t ho base e i z size bytes ht hi hz hsize hby hzs hsz v n xs hs hown ad m c news hx hl hnews h1 h63 hbytes hbase fun v' w' h2 h3 h4=>hK _ _ (h v' w' h2 h3 h4)
theorem apart_later{w:World}{o:Obj}{v v':Value}(h:∀g,v'.ownBlock=some g->v.ownBlock=some g\/(w.drew.alloc o).heap.size<=g):∀g,v'.ownBlock=some g->v.ownBlock=some g\/w.heap.size<=g:=fun g hg=>by
 rcases h g hg with h | h
 ·exact .inl h
 ·have h2:(w.drew.alloc o).heap.size=w.heap.size+1:=by simp
  exact .inr (by omega)
end Go.Proofs.YthlhgiihngcobaaGreatDoor
namespace Go.Proofs.YthlhgiihngcobaaGreatDoor
open Go.RowKit
theorem zdj{w:World}{base e n:Nat}{v:Value}{l:List Op3}(h:w.ownsRow base e 3 v n (flat l))(hl:l.length=n){k:Nat}(hk:k<n):∃g c,v=.slice (some ⟨g,0,none⟩) n c/\base<=g/\g<w.heap.size/\(∀j,w.frozen? ⟨g,j,none⟩=false)/\w.cell? ⟨g,k*3,none⟩=some (.int .i64 (opAt l k).1)/\w.cell? ⟨g,k*3+1,none⟩=some (.int .i64 (opAt l k).2.1)/\w.cell? ⟨g,k*3+2,none⟩=some (.int .i64 (opAt l k).2.2):=by
 obtain⟨ad,c,hv,hg⟩:=zad h;obtain⟨g,rfl,h1,h2,h3⟩:=hg (by omega);refine⟨g,c,hv,h1,h2,h3,?_⟩;obtain⟨f0,f1,f2⟩:=zgw l k (by omega);have hc:=fun j u hj=>h.cells (g:=g) (by rw[hv];rfl) j u hj;refine⟨?_,?_,?_⟩
 ·have:=hc _ _ f0;rw[Addr.add_lit,Nat.zero_add]at this;exact this
 ·have:=hc _ _ f1;rw[Addr.add_lit,Nat.zero_add]at this;exact this
 ·have:=hc _ _ f2;rw[Addr.add_lit,Nat.zero_add]at this;exact this
end Go.Proofs.YthlhgiihngcobaaGreatDoor
