/-
  PROVED HERE: plain facts on lists, with no word of the program; plain facts, with no word of the program; plain facts, with no word of the program; plain facts, with no word of the program.
  Conditions: none but those that each theorem's own premises say.
-/
import Derived.Test.YthlhgiihngcobaaGreatDoorMgaf
import Derived.Test.YthlhgiihngcobaaGreatDoorMgah
set_option maxHeartbeats 32000000
set_option maxRecDepth 100000
namespace Go.Proofs.YthlhgiihngcobaaGreatDoor
def zhv:List Op3->Int->Nat->Option Nat
 | [],_,_=>none
 | o::r,t,n=>if o.1=t then(if n=0 then some 0 else(zhv r t (n-1)).map (· + 1))else(zhv r t n).map (· + 1)
def nthAt(l:List Op3)(i:Nat):Nat:=(ofL (l.take i) (opAt l i).1).length
def zaA(l:List Op3)(i:Nat):Op3 × Nat:=(opAt l i,nthAt l i)
theorem zvy(o:Op3)(r:List Op3)(i:Nat):opAt (o::r) (i+1)=opAt r i:=by simp[opAt]
theorem zdr(o:Op3)(r:List Op3)(t:Int):ofL (o::r) t=if o.1=t then o::ofL r t else ofL r t:=by unfold ofL;rw[List.filter_cons];by_cases h:o.1=t <;> simp[h]
theorem zi5:∀(l:List Op3) (k:Nat),k<l.length->zhv l (opAt l k).1 (nthAt l k)=some k:=by
 intro l
 induction l with
 | nil=>intro k h;simp at h
 | cons o r ih =>
   intro k h;cases k with
   | zero=>simp[zhv,opAt,nthAt,ofL]
   | succ k =>
     have hk:k<r.length:=by simpa using h
     have h1:=ih k hk;unfold nthAt at h1 ⊢;rw[zvy,List.take_succ_cons,zdr];simp only[zhv];by_cases ho:o.1=(opAt r k).1
     ·rw[if_pos ho,if_pos ho,List.length_cons,if_neg (by omega),Nat.add_sub_cancel,h1];rfl
     ·rw[if_neg ho,if_neg ho,h1];rfl
theorem zj0{l:List Op3}{i k:Nat}(hi:i<l.length)(hk:k<l.length)(h:zaA l i=zaA l k):i=k:=by have h1:=zi5 l i hi;have h2:=zi5 l k hk;unfold zaA at h;simp only[Prod.mk.injEq]at h;rw[h.1,h.2,h2]at h1;exact(Option.some.inj h1).symm
theorem zey(l m:List Op3)(t:Int):ofL (l++m) t=ofL l t++ofL m t:=by simp[ofL]
def zue(h g:List Op3):Prop:=∀t:Int,1<=t->t<=6->ofL h t=ofL g t
theorem ztc(l:List Op3)(hl:∀o∈l,1<=o.1/\o.1<=6):l.length=(ofL l 1).length+(ofL l 2).length+(ofL l 3).length+(ofL l 4).length+(ofL l 5).length+(ofL l 6).length:=by
 induction l with
 | nil=>rfl
 | cons o r ih =>have ho:=hl o (List.mem_cons_self ..);have ih':=ih fun p hp=>hl p (List.mem_cons_of_mem _ hp);simp only[zdr,List.length_cons];rcases(show o.1=1\/o.1=2\/o.1=3\/o.1=4\/o.1=5\/o.1=6 by omega)with e | e | e | e | e | e <;> rw[e] <;> simp <;> omega
theorem zlo{h g:List Op3}(hh:∀o∈h,1<=o.1/\o.1<=6)(hg:∀o∈g,1<=o.1/\o.1<=6)(hd:zue h g):h.length=g.length:=by rw[ztc h hh,ztc g hg,hd 1 (by omega) (by omega),hd 2 (by omega) (by omega),hd 3 (by omega) (by omega),hd 4 (by omega) (by omega),hd 5 (by omega) (by omega),hd 6 (by omega) (by omega)]
end Go.Proofs.YthlhgiihngcobaaGreatDoor
namespace Go.Proofs.YthlhgiihngcobaaGreatDoor
def zmN(l:List Op3)(x:Int):Nat->Option Nat
 | 0=>none
 | k+1=>if(opAt l k).2.1=2/\(opAt l k).2.2=x then some k else zmN l x k
theorem zkH{l:List Op3}{x:Int}{k:Nat}(h1:(opAt l k).2.1=2)(h2:(opAt l k).2.2=x):zmN l x (k+1)=some k:=by simp[zmN,h1,h2]
theorem zhV{l:List Op3}{x:Int}{k:Nat}(h:¬((opAt l k).2.1=2/\(opAt l k).2.2=x)):zmN l x (k+1)=zmN l x k:=by rw[zmN,if_neg h]
theorem ztx{l:List Op3}{x:Int}:∀ {k j:Nat},zmN l x k=some j->j<k/\(opAt l j).2.1=2/\(opAt l j).2.2=x/\∀i,j<i->i<k->¬((opAt l i).2.1=2/\(opAt l i).2.2=x):=by
 intro k
 induction k with
 | zero=>intro j h;cases h
 | succ k ih =>
   intro j h;by_cases hk:(opAt l k).2.1=2/\(opAt l k).2.2=x
   ·rw[zkH hk.1 hk.2]at h;obtain rfl:=Option.some.inj h;exact⟨by omega,hk.1,hk.2,fun i h1 h2=>by omega⟩
   ·rw[zhV hk]at h;obtain⟨h1,h2,h3,h4⟩:=ih h;refine⟨by omega,h2,h3,fun i i1 i2=>?_⟩;rcases Nat.lt_or_ge i k with e | e
    ·exact h4 i i1 e
    ·rw[show i=k by omega];exact hk
def zN:Op3 × Nat:=((0,0,0),0)
def zfb(l:List Op3)(k:Nat)(x:Int):Op3 × Nat:=match zmN l x k with | none=>zN | some j=>zaA l j
theorem zrf{l:List Op3}{k:Nat}{x:Int}(h:zmN l x k=none):zfb l k x=zN:=by rw[zfb,h]
theorem zjk{l:List Op3}{k j:Nat}{x:Int}(h:zmN l x k=some j):zfb l k x=zaA l j:=by rw[zfb,h]
theorem zu8{l:List Op3}{x:Int}{k:Nat}(h1:(opAt l k).2.1=2)(h2:(opAt l k).2.2=x):zfb l (k+1) x=zaA l k:=zjk (zkH h1 h2)
theorem zjn{l:List Op3}{x:Int}{k:Nat}(h:¬((opAt l k).2.1=2/\(opAt l k).2.2=x)):zfb l (k+1) x=zfb l k x:=by unfold zfb;rw[zhV h]
def zeX(l:List Op3)(i:Nat):Op3 × Nat:=if(opAt l i).2.1=1 then zfb l i (opAt l i).2.2 else zN
def zgl(h g:List Op3)(k:Nat):Bool:=(List.range h.length).any fun i=>zaA h i == zaA g k && zeX h i == zeX g k
def zj2(h g:List Op3):Bool:=(List.range 7).all fun x=>zfb h h.length ((x:Nat):Int) == zfb g g.length ((x:Nat):Int)
def zcQ(h g:List Op3):Bool:=(g.length == h.length) && (List.range g.length).all (zgl h g) && zj2 h g
theorem zld{h g:List Op3}{k:Nat}:zgl h g k=true↔∃i,i<h.length/\zaA h i=zaA g k/\zeX h i=zeX g k:=by simp[zgl]
theorem zuh{h g:List Op3}:zj2 h g=true↔∀x:Nat,x<7->zfb h h.length x=zfb g g.length x:=by simp[zj2]
theorem zgj{h g:List Op3}:zcQ h g=true↔g.length=h.length/\(∀k,k<g.length->zgl h g k=true)/\zj2 h g=true:=by simp[zcQ,and_assoc]
theorem zvM{o:Op3}(h:isOpB o=true):1<=o.1/\o.1<=6:=by simp[isOpB]at h;omega
theorem zcJ{o:Op3}(h:isOpB o=true)(h2:o.2.1=1\/o.2.1=2):1<=o.2.2/\o.2.2<=6:=by rcases h2 with e | e <;> simp[isOpB,zaM,e]at h <;> omega
def tryO(ds:List Int)(p:List Int->Bool):Nat->List Int->Option (List Int)
 | 0,b=>if p b=true then some b else none
 | f+1,b=>ds.findSome? fun t=>if b.contains t=true then none else tryO ds p f (b++[t])
theorem zoi{α β:Type}{q:α->Option β}:∀ {l:List α} {k:Nat} {a:α} {r:β},l[k]? = some a->q a=some r->(∀j y,j<k->l[j]? = some y->q y=none)->l.findSome? q=some r:=by
 intro l
 induction l with
 | nil=>intro k a r h;simp at h
 | cons x l ih =>
   intro k a r h hr hn;cases k with
   | zero =>simp at h;subst h;simp[hr]
   | succ k =>have h0:=hn 0 x (by omega) (by simp);simp[h0];exact ih (k:=k) (by simpa using h) hr fun j y hj hy=>hn (j+1) y (by omega) (by simpa using hy)
theorem zxS{ds:List Int}{p:List Int->Bool}{f k:Nat}{b r:List Int}(hk:k<ds.length)(hb:ds.getD k 0 ∉ b)(hs:tryO ds p f (b++[ds.getD k 0])=some r)(hn:∀j,j<k->ds.getD j 0 ∉ b->tryO ds p f (b++[ds.getD j 0])=none):tryO ds p (f+1) b=some r:=by
 rw[tryO];refine zoi (k:=k) (a:=ds.getD k 0) (by simp[List.getD,List.getElem?_eq_getElem hk]) (by rw[if_neg (by simpa using hb)];exact hs) fun j y hj hy=>?_;have e:ds.getD j 0=y:=by simp[List.getD,hy]
 split
 ·rfl
 ·rename_i h;rw[<-e];exact hn j hj (by rw[e];simpa using h)
theorem ztd{ds:List Int}{p:List Int->Bool}{f:Nat}{b:List Int}(hn:∀j,j<ds.length->ds.getD j 0 ∉ b->tryO ds p f (b++[ds.getD j 0])=none):tryO ds p (f+1) b=none:=by
 rw[tryO,List.findSome?_eq_none_iff];intro y hy;obtain⟨j,hj,e⟩:=List.mem_iff_getElem.1 hy;have e':ds.getD j 0=y:=by simp[List.getD,List.getElem?_eq_getElem hj,e]
 split
 ·rfl
 ·rename_i h;rw[<-e'];exact hn j hj (by rw[e'];simpa using h)
structure zgW(ds b:List Int):Prop where
 once:b.Nodup
 all:∀x∈b,x∈ds
theorem zgW.nil(ds:List Int):zgW ds []:=⟨List.nodup_nil,fun x hx=>by cases hx⟩
theorem zgW.snoc{ds b:List Int}(h:zgW ds b){t:Int}(ht:t∈ds)(hb:t ∉ b):zgW ds (b++[t]) where
 once:=by rw[List.nodup_append];refine⟨h.once,by simp,?_⟩;intro x hx y hy;rw[List.mem_singleton.1 hy];intro e;exact hb (e ▸hx)
 all:=fun x hx=>by
  rcases List.mem_append.1 hx with e | e
  ·exact h.all x e
  ·rw[List.mem_singleton.1 e];exact ht
theorem zv5{ds:List Int}{k:Nat}(hk:k<ds.length):ds.getD k 0∈ds:=by simp[List.getD,List.getElem?_eq_getElem hk]
end Go.Proofs.YthlhgiihngcobaaGreatDoor
namespace Go.Proofs.YthlhgiihngcobaaGreatDoor
def zcF(d:List Op3):Option (List Int):=(zcM (zaF d 36)).map fun b=>weaveL b ((zas d).filter fun x=>!inB b x)
theorem zhD{d:List Op3}(hd:∀o∈d,1<=o.1/\o.1<=6){e:zab}(he:e∈zaF d 36):e.1∈zas d/\e.2∈zas d:=by
 have h1:=(List.mem_filter.1 he).2;unfold zhH at h1;obtain⟨p,hp,h2⟩:=List.any_eq_true.1 h1;have h3:zfq d p=e:=by simpa using h2
 obtain⟨i,j,hij,hj,_,rfl⟩:=zbv.1 hp;rw[<-h3];unfold zfq;simp only[Int.toNat_natCast];have m1:=zal (l:=d) (i:=i) (by omega);have m2:=zal (l:=d) (i:=j) hj;exact⟨zbc.2 ⟨(hd _ m1).1,(hd _ m1).2,zo7.2 ⟨_,m1,rfl⟩⟩,zbc.2 ⟨(hd _ m2).1,(hd _ m2).2,zo7.2 ⟨_,m2,rfl⟩⟩⟩
theorem zmY{d:List Op3}(hd:∀o∈d,1<=o.1/\o.1<=6):zyj (zas d) (zaF d 36)=zcF d:=by
 unfold zcF;refine zm5 (ze9 _ _) (zdx _) (fun x hx=>⟨(zbc.1 hx).1,(zbc.1 hx).2.1⟩) fun x hx=>?_;obtain⟨e,he,h2⟩:=(zjd _ x).1 hx;rcases h2 with rfl | rfl
 ·exact(zhD hd he).1
 ·exact(zhD hd he).2
end Go.Proofs.YthlhgiihngcobaaGreatDoor
namespace Go.Proofs.YthlhgiihngcobaaGreatDoor
theorem zqS(d:List Op3)(t:Int)(o:List Int):alongL d (t::o)=ofL d t++alongL d o:=by simp[alongL]
theorem zls{d:List Op3}{o:List Int}{x:Op3}:x∈alongL d o↔x∈d/\x.1∈o:=by
 unfold alongL ofL;simp only[List.mem_flatMap,List.mem_filter,beq_iff_eq];constructor
 ·rintro⟨t,ht,hx,rfl⟩;exact⟨hx,ht⟩
 ·rintro⟨hx,ht⟩;exact⟨_,ht,hx,rfl⟩
theorem zAw(d:List Op3)(u t:Int):ofL (ofL d u) t=if u=t then ofL d t else[]:=by
 unfold ofL;rw[List.filter_filter];split
 ·rename_i h;subst h;simp
 ·rename_i h;rw[List.filter_eq_nil_iff];intro a _ h2;simp at h2;exact h (h2.2.symm.trans h2.1)
theorem zpt{d:List Op3}{t:Int}:∀ {o:List Int},o.Nodup->ofL (alongL d o) t=if t∈o then ofL d t else[]:=by
 intro o
 induction o with
 | nil=>intro _;rfl
 | cons u o ih =>
   intro hn;obtain⟨h1,h2⟩:=List.nodup_cons.1 hn;rw[zqS,zey,zAw,ih h2];by_cases e:u=t
   ·subst e;rw[if_pos rfl,if_neg h1,if_pos (List.mem_cons_self ..),List.append_nil]
   ·rw[if_neg e,List.nil_append];by_cases h3:t∈o
    ·rw[if_pos h3,if_pos (List.mem_cons_of_mem _ h3)]
    ·rw[if_neg h3,if_neg fun h=>?_];rcases List.mem_cons.1 h with h | h
     ·exact e h.symm
     ·exact h3 h
theorem zjm{d:List Op3}{o:List Int}(hs:sortI o=zas d):o.Nodup:=(zei hs).nodup_iff.2 (zgh (zdx _))
theorem zsk{d:List Op3}{o:List Int}(hs:sortI o=zas d){t:Int}:t∈o↔t∈zas d:=(zei hs).mem_iff
theorem zmP{d:List Op3}{o:List Int}(hs:sortI o=zas d):zue (alongL d o) d:=fun t h1 h6=>by
 rw[zpt (zjm hs)];split
 ·rfl
 ·rename_i h
  have h2:zgD d t=false:=by
   cases h3:zgD d t with
   | false=>rfl
   | true=>exact absurd ((zsk hs).2 (zbc.2 ⟨h1,h6,h3⟩)) h
  exact(List.length_eq_zero_iff.1 (zzc h2)).symm
theorem zy4:∀ {l:List Op3},(∀t,zgK (ofL l t))->zgK l:=by
 intro l
 induction l with
 | nil=>intro _;exact List.Pairwise.nil
 | cons a r ih =>
   intro h;refine List.pairwise_cons.2 ⟨fun b hb=>?_,ih fun t=>?_⟩
   ·have h1:=h a.1;rw[zdr,if_pos rfl]at h1;rintro⟨e,h2⟩;exact(List.pairwise_cons.1 h1).1 b (List.mem_filter.2 ⟨hb,by simp[e]⟩) ⟨e,h2⟩
   ·have h1:=h t;rw[zdr]at h1;split at h1
    ·exact(List.pairwise_cons.1 h1).2
    ·exact h1
theorem zuZ{d:List Op3}{o:List Int}(hc:(chk d).2=0)(hs:sortI o=zas d):(chk (alongL d o)).2=0:=by
 obtain⟨h1,h2,h3⟩:=(zbq d).1 hc;have hr:∀x∈d,1<=x.1/\x.1<=6:=fun x hx=>zbu (h2 x hx);have hr2:∀x∈alongL d o,1<=x.1/\x.1<=6:=fun x hx=>hr x (zls.1 hx).1;refine(zbq _).2 ⟨?_,fun x hx=>h2 x (zls.1 hx).1,zy4 fun t=>?_⟩
 ·rw[zlo hr2 hr (zmP hs)];exact h1
 ·rw[zpt (zjm hs)];split
  ·exact h3.sublist List.filter_sublist
  ·exact List.Pairwise.nil
end Go.Proofs.YthlhgiihngcobaaGreatDoor
