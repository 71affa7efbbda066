/-
  PROVED HERE: plain facts on lists, with no word of the program; plain facts, with no word of the program.
  Conditions: none but those that each theorem's own premises say.
-/
import Derived.Test.YthlhgiihngcobaaGreatDoorMgag
import Derived.Test.YthlhgiihngcobaaGreatDoorMgaj
set_option maxHeartbeats 32000000
set_option maxRecDepth 100000
namespace Go.Proofs.YthlhgiihngcobaaGreatDoor
def zeu:List Op3->Int->Nat->Option Nat
 | [],_,_=>none
 | o::r,t,n=>if o.1=t then(if n=0 then some 0 else(zeu r t (n-1)).map (· + 1))else(zeu r t n).map (· + 1)
def zg7(l:List Op3)(i:Nat):Nat:=(ofL (l.take i) (opAt l i).1).length
def zah(l:List Op3)(i:Nat):Op3 × Nat:=(opAt l i,zg7 l i)
theorem zkh(o:Op3)(r:List Op3)(i:Nat):opAt (o::r) (i+1)=opAt r i:=by simp[opAt]
theorem zcu(o:Op3)(r:List Op3)(t:Int):ofL (o::r) t=if o.1=t then o::ofL r t else ofL r t:=by unfold ofL;rw[List.filter_cons];by_cases h:o.1=t <;> simp[h]
theorem zff:∀(l:List Op3) (k:Nat),k<l.length->zeu l (opAt l k).1 (zg7 l k)=some k:=by
 intro l
 induction l with
 | nil=>intro k h;simp at h
 | cons o r ih =>
   intro k h;cases k with
   | zero=>simp[zeu,opAt,zg7,ofL]
   | succ k =>
     have hk:k<r.length:=by simpa using h
     have h1:=ih k hk;unfold zg7 at h1 ⊢;rw[zkh,List.take_succ_cons,zcu];simp only[zeu];by_cases ho:o.1=(opAt r k).1
     ·rw[if_pos ho,if_pos ho,List.length_cons,if_neg (by omega),Nat.add_sub_cancel,h1];rfl
     ·rw[if_neg ho,if_neg ho,h1];rfl
theorem zfE{l:List Op3}{i k:Nat}(hi:i<l.length)(hk:k<l.length)(h:zah l i=zah l k):i=k:=by have h1:=zff l i hi;have h2:=zff l k hk;unfold zah at h;simp only[Prod.mk.injEq]at h;rw[h.1,h.2,h2]at h1;exact(Option.some.inj h1).symm
theorem zds(l m:List Op3)(t:Int):ofL (l++m) t=ofL l t++ofL m t:=by simp[ofL]
def zkM(h g:List Op3):Prop:=∀t:Int,1<=t->t<=6->ofL h t=ofL g t
theorem zjs(l:List Op3)(hl:∀o∈l,1<=o.1/\o.1<=6):l.length=(ofL l 1).length+(ofL l 2).length+(ofL l 3).length+(ofL l 4).length+(ofL l 5).length+(ofL l 6).length:=by
 induction l with
 | nil=>rfl
 | cons o r ih =>have ho:=hl o (List.mem_cons_self ..);have ih':=ih fun p hp=>hl p (List.mem_cons_of_mem _ hp);simp only[zcu,List.length_cons];rcases(show o.1=1\/o.1=2\/o.1=3\/o.1=4\/o.1=5\/o.1=6 by omega)with e | e | e | e | e | e <;> rw[e] <;> simp <;> omega
theorem zga{h g:List Op3}(hh:∀o∈h,1<=o.1/\o.1<=6)(hg:∀o∈g,1<=o.1/\o.1<=6)(hd:zkM h g):h.length=g.length:=by rw[zjs h hh,zjs g hg,hd 1 (by omega) (by omega),hd 2 (by omega) (by omega),hd 3 (by omega) (by omega),hd 4 (by omega) (by omega),hd 5 (by omega) (by omega),hd 6 (by omega) (by omega)]
end Go.Proofs.YthlhgiihngcobaaGreatDoor
namespace Go.Proofs.YthlhgiihngcobaaGreatDoor
def zi5(l:List Op3)(x:Int):Nat->Option Nat
 | 0=>none
 | k+1=>if(opAt l k).2.1=2/\(opAt l k).2.2=x then some k else zi5 l x k
theorem zhN{l:List Op3}{x:Int}{k:Nat}(h1:(opAt l k).2.1=2)(h2:(opAt l k).2.2=x):zi5 l x (k+1)=some k:=by simp[zi5,h1,h2]
theorem zf0{l:List Op3}{x:Int}{k:Nat}(h:¬((opAt l k).2.1=2/\(opAt l k).2.2=x)):zi5 l x (k+1)=zi5 l x k:=by rw[zi5,if_neg h]
theorem zj6{l:List Op3}{x:Int}:∀ {k j:Nat},zi5 l x k=some j->j<k/\(opAt l j).2.1=2/\(opAt l j).2.2=x/\∀i,j<i->i<k->¬((opAt l i).2.1=2/\(opAt l i).2.2=x):=by
 intro k
 induction k with
 | zero=>intro j h;cases h
 | succ k ih =>
   intro j h;by_cases hk:(opAt l k).2.1=2/\(opAt l k).2.2=x
   ·rw[zhN hk.1 hk.2]at h;obtain rfl:=Option.some.inj h;exact⟨by omega,hk.1,hk.2,fun i h1 h2=>by omega⟩
   ·rw[zf0 hk]at h;obtain⟨h1,h2,h3,h4⟩:=ih h;refine⟨by omega,h2,h3,fun i i1 i2=>?_⟩;rcases Nat.lt_or_ge i k with e | e
    ·exact h4 i i1 e
    ·rw[show i=k by omega];exact hk
def zN:Op3 × Nat:=((0,0,0),0)
def zcz(l:List Op3)(k:Nat)(x:Int):Op3 × Nat:=match zi5 l x k with | none=>zN | some j=>zah l j
theorem zib{l:List Op3}{k:Nat}{x:Int}(h:zi5 l x k=none):zcz l k x=zN:=by rw[zcz,h]
theorem ze8{l:List Op3}{k j:Nat}{x:Int}(h:zi5 l x k=some j):zcz l k x=zah l j:=by rw[zcz,h]
theorem zif(l:List Op3)(x:Int):zcz l 0 x=zN:=rfl
theorem zfU{l:List Op3}{x:Int}{k:Nat}(h1:(opAt l k).2.1=2)(h2:(opAt l k).2.2=x):zcz l (k+1) x=zah l k:=ze8 (zhN h1 h2)
theorem zdv{l:List Op3}{x:Int}{k:Nat}(h:¬((opAt l k).2.1=2/\(opAt l k).2.2=x)):zcz l (k+1) x=zcz l k x:=by unfold zcz;rw[zf0 h]
def zb7(l:List Op3)(i:Nat):Op3 × Nat:=if(opAt l i).2.1=1 then zcz l i (opAt l i).2.2 else zN
def zdr(h g:List Op3)(k:Nat):Bool:=(List.range h.length).any fun i=>zah h i == zah g k && zb7 h i == zb7 g k
def zfp(h g:List Op3):Bool:=(List.range 7).all fun x=>zcz h h.length ((x:Nat):Int) == zcz g g.length ((x:Nat):Int)
def zbq(h g:List Op3):Bool:=(g.length == h.length) && (List.range g.length).all (zdr h g) && zfp h g
theorem zb9{h g:List Op3}{k:Nat}:zdr h g k=true↔∃i,i<h.length/\zah h i=zah g k/\zb7 h i=zb7 g k:=by simp[zdr]
theorem zgq{h g:List Op3}:zfp h g=true↔∀x:Nat,x<7->zcz h h.length x=zcz g g.length x:=by simp[zfp]
theorem zbE{h g:List Op3}:zbq h g=true↔g.length=h.length/\(∀k,k<g.length->zdr h g k=true)/\zfp h g=true:=by simp[zbq,and_assoc]
theorem zce{o:Op3}(h:isOpB o=true)(h2:o.2.1=1\/o.2.1=2):1<=o.2.2/\o.2.2<=6:=by rcases h2 with e | e <;> simp[isOpB,zax,e]at h <;> omega
def tryO(ds:List Int)(p:List Int->Bool):Nat->List Int->Option (List Int)
 | 0,b=>if p b=true then some b else none
 | f+1,b=>ds.findSome? fun t=>if b.contains t=true then none else tryO ds p f (b++[t])
theorem zhk{α β:Type}{q:α->Option β}:∀ {l:List α} {k:Nat} {a:α} {r:β},l[k]? = some a->q a=some r->(∀j y,j<k->l[j]? = some y->q y=none)->l.findSome? q=some r:=by
 intro l
 induction l with
 | nil=>intro k a r h;simp at h
 | cons x l ih =>
   intro k a r h hr hn;cases k with
   | zero =>simp at h;subst h;simp[hr]
   | succ k =>have h0:=hn 0 x (by omega) (by simp);simp[h0];exact ih (k:=k) (by simpa using h) hr fun j y hj hy=>hn (j+1) y (by omega) (by simpa using hy)
theorem zlR{ds:List Int}{p:List Int->Bool}{f k:Nat}{b r:List Int}(hk:k<ds.length)(hb:ds.getD k 0 ∉ b)(hs:tryO ds p f (b++[ds.getD k 0])=some r)(hn:∀j,j<k->ds.getD j 0 ∉ b->tryO ds p f (b++[ds.getD j 0])=none):tryO ds p (f+1) b=some r:=by
 rw[tryO];refine zhk (k:=k) (a:=ds.getD k 0) (by simp[List.getD,List.getElem?_eq_getElem hk]) (by rw[if_neg (by simpa using hb)];exact hs) fun j y hj hy=>?_;have e:ds.getD j 0=y:=by simp[List.getD,hy]
 split
 ·rfl
 ·rename_i h;rw[<-e];exact hn j hj (by rw[e];simpa using h)
theorem zjV{ds:List Int}{p:List Int->Bool}{f:Nat}{b:List Int}(hn:∀j,j<ds.length->ds.getD j 0 ∉ b->tryO ds p f (b++[ds.getD j 0])=none):tryO ds p (f+1) b=none:=by
 rw[tryO,List.findSome?_eq_none_iff];intro y hy;obtain⟨j,hj,e⟩:=List.mem_iff_getElem.1 hy;have e':ds.getD j 0=y:=by simp[List.getD,List.getElem?_eq_getElem hj,e]
 split
 ·rfl
 ·rename_i h;rw[<-e'];exact hn j hj (by rw[e'];simpa using h)
structure zcC(ds b:List Int):Prop where
 once:b.Nodup
 all:∀x∈b,x∈ds
theorem zcC.nil(ds:List Int):zcC ds []:=⟨List.nodup_nil,fun x hx=>by cases hx⟩
theorem zcC.snoc{ds b:List Int}(h:zcC ds b){t:Int}(ht:t∈ds)(hb:t ∉ b):zcC ds (b++[t]) where
 once:=by rw[List.nodup_append];refine⟨h.once,by simp,?_⟩;intro x hx y hy;rw[List.mem_singleton.1 hy];intro e;exact hb (e ▸hx)
 all:=fun x hx=>by
  rcases List.mem_append.1 hx with e | e
  ·exact h.all x e
  ·rw[List.mem_singleton.1 e];exact ht
theorem zlv{ds:List Int}{k:Nat}(hk:k<ds.length):ds.getD k 0∈ds:=by simp[List.getD,List.getElem?_eq_getElem hk]
end Go.Proofs.YthlhgiihngcobaaGreatDoor
